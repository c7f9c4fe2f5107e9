/- For every row of bytes latticelaw01.WireOwn answers true and leaves its argument as it was: bytes that are handed in stay, and what is told shares nothing (R3); no condition. -/
import Derived.Test.YtnnaaliadbihkaaArgs
import Derived.Test.YtnnaaliadbihkaaNilRef
import Derived.Test.YtnnaaliadbihkaaRead4
namespace Go.Proofs.Ytnnaaliadbihkaa.wireOwn
open Go.ChangeShapes Go.WideShapes Go.ChangeAt Go.RowKit
open Go.ChangeMaps (open_string shut_string)
set_option linter.unusedVariables false

theorem own : ownKnob Try.prog.godebug = none := by kernel_rfl
theorem laidOut : laidOutB Try.prog = true := by kernel_rfl
theorem bytes8 : Try.prog.bytesOf 5 = 1 := by kernel_rfl

theorem inc8 (x : Nat) : ∃ y, y < 256 ∧ IntKind.u8.wrap ((x : Int) + 1) = ((y : Nat) : Int) := by
  refine ⟨(x + 1) % 256, Nat.mod_lt _ (by omega), ?_⟩
  rw [IntKind.wrap_u8']; omega
theorem octs_set {L : List Nat} (h : octs L) (j y : Nat) (hy : y < 256) : octs (L.set j y) := by
  intro x hx
  rcases List.mem_or_eq_of_mem_set hx with h1 | h1
  · exact h x h1
  · omega
theorem cellsOf_set (L : List Nat) (j y : Nat) : cellsOf (L.set j y) = (cellsOf L).set j (.int .u8 (y : Int)) := by
  simp [cellsOf, List.map_set]

set_option maxRecDepth 100000 in
set_option maxHeartbeats 2000000 in
theorem walk (w : World) (a0 : Option Addr) (len0 cap0 : Nat) (l0 : List Nat) (hl0 : len0 = l0.length) (z0 : cap0 ≤ 140737488351232) (hr0 : Row w a0 cap0 l0) :
    Calls Try.prog 6 #[.slice a0 len0 cap0] w fun e w' => e = .returned (.bool true) ∧ Fr (fun _ => False) w w' := by
  obtain ⟨i0, hi, hz0, hz1, hz2⟩ := info_parts info8
  subst hl0
  have e0 := hr0.le
  have s0 := hr0.small
  go_enter Try.func6, Try.ntmps6
  go_wp2_with (at_builtin; refine wpList_append_row _ rfl _ _ 25 25 5 rfl i0 Try.underlying25 Try.underlying25 hi hz0 hz1 hz2 w.heap.size (.slice none 0 0) [] rfl (World.ownsRow_nil _ _ _ _) a0 l0.length cap0 l0 rfl rfl hr0 (by simp; omega) (Nat.le_refl _) ?_; intro a1 c1 w1 hown1 hgrow1 hat1)
  have m1 : Mine w1 w.heap.size (.slice a1 l0.length c1) l0 := by simpa using hown1
  have f1 : Fr (fun _ => False) w w1 := Fr.ofGrown hgrow1
  obtain ⟨a1', c1', he1, hr1⟩ := m1.row hr0.byte s0
  simp only [Value.slice.injEq, true_and] at he1
  obtain ⟨rfl, rfl⟩ := he1
  have lt1 : ∀ b off sp, a1 = some ⟨b, off, sp⟩ → b < w1.heap.size := fun b off sp e => (m1.lt b (by rw [e]; rfl)).2
  clear hown1 hat1 hgrow1 m1
  refine (of_any a0 _ cap0 l0 rfl _ (hr0.same f1)).mono ?_
  rintro e w2 ⟨rb, a2, c2, rfl, hrd2, f12, hrb, ha2⟩
  have f2 := f1.false_trans f12
  have hr12 := hr1.same f12
  have lrb := lt_of_block hrd2.box
  go_wp2_with fail
  refine (new_any _).mono ?_
  rintro e w3 ⟨rfl, rfl⟩
  have f23 : Fr (fun _ => False) w2 (w2.alloc (.cells #[.slice none 0 0] 60)) := (Fr.refl (fun _ => False) w2).alloc _
  go_wp2_with fail
  refine (text_ok ⟨#[97, 98]⟩ (by decide) (w2.heap.size + 1) w2.heap.size (.slice none 0 0) [] _ (Wr.new w2) (by simp) (by simp)).mono ?_
  rintro e w4 ⟨rfl, v4, hw4, hf4, _⟩
  have f24 : Fr (fun _ => False) w2 w4 := f23.above hf4 (fun i hi => (Wr.new w2).ge hi)
  have el : [] ++ le 2 (ByteArray.mk #[97, 98]).size ++ bsOf ⟨#[97, 98]⟩ = [2, 0, 97, 98] := by decide +kernel
  rw [el] at hw4
  clear el hf4 f23
  have ol : octs [2, 0, 97, 98] := by intro x hx; simp at hx; omega
  have z24 := f24.size
  go_wp2_with fail
  refine (bytes_any (w2.heap.size + 1) w2.heap.size v4 [2, 0, 97, 98] ol (by simp) _ hw4).mono ?_
  rintro e w5 ⟨v5, rfl, m5⟩
  have hw5 := hw4.fr m5.fr (fun f => f) (fun _ _ f => f)
  have f25 := f24.false_trans m5.fr
  have z45 := m5.fr.size
  have b4 : ∀ k, wrS w2.heap.size v4 k → k < w4.heap.size := fun k hk => hw4.lt hk
  obtain ⟨g, c, he5, hge5, hlt5⟩ := m5.own.form (by simp)
  rw [he5]
  have own5 : w5.ownsRow w4.heap.size 5 1 (.slice (some ⟨g, 0, none⟩) 4 c) 4 (cellsOf [2, 0, 97, 98]) := by
    have := m5.own
    rw [he5] at this
    exact this
  clear he5 m5 hw4
  go_wp2
  go_loopw [29] (fun i wr => ∃ (k : Nat) (L : List Nat), k ≤ 4 ∧ i = .int .i64 k ∧ L.length = 4 ∧ octs L ∧ wr.ownsRow w4.heap.size 5 1 (.slice (some ⟨g, 0, none⟩) 4 c) 4 (cellsOf L) ∧ Fr (fun k => w4.heap.size ≤ k) w5 wr)
    (fun i _ => 4 - (intOf i).toNat)
  case atStart => exact ⟨0, [2, 0, 97, 98], by omega, rfl, rfl, ol, own5, Fr.refl _ _⟩
  case round =>
    obtain ⟨k, L, hk, rfl, hLl, hLo, hown, hf⟩ := hrel
    have HLL : Hid (L.length = 4) := hLl
    clear hLl
    by_cases hlt : k < 4
    · have hcell : wr.cell? ⟨g, k, none⟩ = some (.int .u8 ((L.getD k 0 : Nat) : Int)) := by
        rw [hown.cellAt _ (by omega)]
        exact cellsOf_get L _ (by rw [HLL.out]; exact hlt)
      have hfr := hown.frozenAt k
      obtain ⟨x, hx⟩ : ∃ x, x = L.getD k 0 := ⟨_, rfl⟩
      rw [← hx] at hcell
      clear hx
      have i0 : (0 : Int) ≤ (k : Int) := by omega
      have i1 : (k : Int) < 4 := by omega
      obtain ⟨y, hy, hyx⟩ := inc8 x
      go_wp2
      have O := (hown.stored k (.int .u8 (y : Int))).1
      rw [← cellsOf_set] at O
      go_roundw
      case rel => exact ⟨k + 1, L.set k y, by omega, by go_num, by rw [List.length_set]; exact HLL.out, octs_set hLo _ _ hy, O, hf.setCell (p := ⟨g, k, none⟩) (fun _ => hge5) _⟩
      case measure => simp [intOf]; omega
    · have ek : k = 4 := by omega
      subst ek
      have zf := hf.size
      have f2r : Fr (fun _ => False) w2 wr := f25.above hf (fun i hi => by omega)
      have hwr := hw5.fr hf (fun h => by have := b4 _ (.inl rfl); omega) (fun k hk h => by have := b4 k (.inr hk); omega)
      have hrdr : Rd wr rb a2 c2 l0 0 := ⟨by rw [f2r.block rb lrb (fun f => f)]; exact hrd2.box, hrd2.row.same f2r, hrd2.far⟩
      have hrr1 := hr12.same f2r
      have f0r := f2.false_trans f2r
      clear hrd2 hown hw5 own5
      go_wp2_with fail
      refine (rtext_all 3 rb a2 c2 (l0, 0) _ hrdr).mono ?_
      rintro e w6 ⟨rfl, a6, c6, hrd6, f6, _⟩
      have hw6 := hwr.fr f6 (fun h => by omega) (fun k hk h => by have := (hwr.own.lt k hk).1; omega)
      have f06 := f0r.above f6 (fun i hi => by have := f1.size; omega)
      have hr16 := hrr1.fr f6 (fun b off sp e h => by have := lt1 b off sp e; omega)
      have hr06 := hr0.same f06
      have cv1 := run_str (P := Try.prog) (src := 25) (dst := 9) Try.underlying25 Try.underlying5 Try.underlying9 hr16 l0.length rfl
      have cv2 := run_str (P := Try.prog) (src := 25) (dst := 9) Try.underlying25 Try.underlying5 Try.underlying9 hr06 l0.length rfl
      clear hrd6 hwr hrdr hf b4
      go_wp2_with fail
      refine (bytes_any (w2.heap.size + 1) w2.heap.size v4 [2, 0, 97, 98] ol (by simp) _ hw6).mono ?_
      rintro e w7 ⟨v7, rfl, m7⟩
      obtain ⟨a7, c7, hv7, hr7⟩ := m7.own.row ol (by simp)
      have f07 := f06.false_trans m7.fr
      have hcv := run_str (P := Try.prog) (src := 25) (dst := 9) Try.underlying25 Try.underlying5 Try.underlying9 hr7 4 rfl
      have es : strOf [2, 0, 97, 98] = ⟨#[2, 0, 97, 98]⟩ := by decide +kernel
      rw [es] at hcv
      rw [hv7]
      clear es hv7 m7 hr7
      go_wp2_with fail
      refine (speaks_any _).mono ?_
      rintro e w8 ⟨rfl, f8⟩
      go_wp2
      go_ret
      exact ⟨rfl, f07.false_trans f8⟩

set_option maxRecDepth 100000 in
theorem lifted (os : Os) (started : os.Started) (H : Type) (enc : TypeId × Value → H) :
    ReturnsInHanded {} Try.checked os 6 .any (Rows.wireOwnSpec.pre6 enc Try.prog Try.f6 Rows.wireOwnRow.domain false) (Rows.wireOwnSpec.post enc Try.prog Try.f6 false true false false) := by
  refine returnsInHanded_of_change_sized (C := Try.checked) own started (by kernel_rfl) Try.func6
    (ChangeSpec.witness6 (enc := enc) (C := Try.checked) false ⟨#[], #[.slice none 0 0], []⟩ 8 (by kernel_rfl) (by kernel_rfl) (by kernel_rfl) (by kernel_rfl)) ?_
  intro W base args ds gs before hval0 hW hcnd hsz0 _
  have hsz : (DataW.weightsEach Try.prog (Try.f6.params.toList ++ Rows.wireOwnSpec.plain.varTypes Try.prog) (ds ++ gs)).all (· ≤ reachBytes) = true := hsz0
  clear hsz0
  have hval : ∀ (j : Nat) t v, Try.f6.params[j]? = some t → args[j]? = some v → Value.okWide Try.prog W .any base t v := hval0
  have hW' := hW
  obtain ⟨p, q, hA0, hV, rfl, hfz, hnd⟩ := hW
  have hA : DataW.TrodAll enc Try.prog W 0 (fun _ => true) true Try.f6.params.toList args.toList ds p := hA0
  rw [Try.params6] at hA hval hsz
  obtain ⟨v0, vs0, d0, ds0, p0, q0, hargs, rfl, rfl, h0, r0⟩ := trodAll_cons hA
  obtain ⟨rfl, rfl, rfl⟩ := trodAll_nil r0
  obtain rfl : args = #[v0] := by cases args; simp_all
  obtain ⟨rfl, rfl⟩ := trodVars_none hV
  obtain ⟨a0, len0, cap0, rfl⟩ := okWide_slice Try.underlying25 (hval 0 25 v0 rfl rfl)
  have k0 := h0
  have lt0 : ∀ x ∈ p0, x.block < W.heap.size := by obtain ⟨m, hm⟩ := k0; exact DataW.trod_lt m _ _ _ hm
  obtain ⟨l0, hl0, z0, hr0⟩ : ∃ l : List Nat, len0 = l.length ∧ cap0 ≤ 140737488351232 ∧ Row W a0 cap0 l := by
    obtain ⟨fuel, hf⟩ := h0
    rcases open_ints Try.underlying25 Try.underlying5 (by kernel_rfl) hf with ⟨hcs, _⟩ | ⟨x, l, c, zs, hcs, _, hl, hm, hz, hx, hcell, hwz⟩
    · simp [Value.cells] at hcs
      obtain ⟨rfl, rfl, rfl⟩ := hcs
      exact ⟨[], rfl, by omega, row_nil _ _⟩
    · simp [Value.cells] at hcs
      obtain ⟨rfl, rfl, rfl⟩ := hcs
      have hz' : zs.length = cap0 := by simpa using hz
      have hd : d0 = .slice (lits .u8 (zs.take len0)) (lits .u8 (zs.drop len0)) := congrArg Prod.fst hx
      have hcap : cap0 ≤ 140737488351232 := by
        have := sized_slice hsz (j := 0) (t := 25) (e := 5) rfl (by rw [hd]; rfl) Try.underlying25
        rw [bytes8] at this
        simp only [lits, List.length_map, List.length_take, List.length_drop, reachBytes] at this
        omega
      obtain ⟨l, h1, h2⟩ := row_of_ints hl (Nat.le_trans hcap (by omega)) hz' hcell hwz
      exact ⟨l, h1, hcap, h2⟩
  clear hA0 hval0
  refine (walk W a0 len0 cap0 l0 hl0 z0 hr0).mono fun e W' ⟨he, fr⟩ => ?_
  have bel : Below W.heap.size W W' := fr.below (Nat.le_refl _) (fun _ f => f.elim)
  subst he
  exact ⟨_, rfl, _, _, _, [], _, [], hW', trodAll_mk1 (shut_bool Try.underlying4 _), (trodAll_cons_mk (Below.trod laidOut (by kernel_rfl) (of_decide_eq_true (by kernel_rfl)) k0 bel lt0) trodAll_mk0), rfl, bel.frame _, fun h => by cases h⟩

theorem proved : Rows.WireOwnSaid :=
  OpenClaim.holds_of_wide 6 Try.f6 rfl rfl rfl rfl rfl rfl rfl ⟨rfl, rfl, rfl, rfl, rfl⟩ rfl rfl rfl rfl rfl (by kernel_rfl) Try.func6 (by kernel_rfl)
    (of_decide_eq_true (by kernel_rfl)) (by unfold Func.isWrapper; first | (rw [if_pos (by decide +kernel)]; kernel_rfl) | (rw [if_neg (by decide +kernel)]; exact ⟨rfl, rfl⟩))
    (fun os started H enc _ => lifted os started H enc)
end Go.Proofs.Ytnnaaliadbihkaa.wireOwn
namespace Go.Proofs.Ytnnaaliadbihkaa
theorem wireOwn_holds : Rows.WireOwnSaid := wireOwn.proved
#print axioms wireOwn_holds
end Go.Proofs.Ytnnaaliadbihkaa
