/- For every row of bytes latticelaw04.NetOwn answers true: a message is what it was when it was sent, whatever happens to the bytes that were handed in or out (R3); no condition. -/
import Derived.Test.YtplkdjmajagpcabArgs
import Derived.Test.YtplkdjmajagpcabNetSpeak
import Derived.Test.YtplkdjmajagpcabNet5
namespace Go.Proofs.Ytplkdjmajagpcab.netOwn
open Go.ChangeShapes Go.WideShapes Go.ChangeAt Go.RowKit
open Go.ChangeMaps (open_string shut_string)
set_option linter.unusedVariables false

theorem own : ownKnob Try.prog.godebug = none := by kernel_rfl
theorem laidOut : laidOutB Try.prog = true := by kernel_rfl
theorem bytes8 : Try.prog.bytesOf 5 = 1 := by kernel_rfl

theorem set_ints (zs : List Int) (k : Nat) (x : Int) : (zs.map (Value.int .u8)).set k (.int .u8 x) = (zs.set k x).map (Value.int .u8) := by rw [List.map_set]
theorem cells_ints (l : List Nat) : cellsOf l = (l.map (fun (x : Nat) => (x : Int))).map (Value.int .u8) := by simp [cellsOf]
/-- Numbers in a slice of bytes of one's own. -/
def Zs (w : World) (v : Value) (n : Nat) (zs : List Int) : Prop := Has w 1 v n (zs.map (Value.int .u8))
theorem Zs.len {w : World} {v : Value} {n : Nat} {zs : List Int} (h : Zs w v n zs) : zs.length = n := by have := h.1; simpa using this
theorem Zs.at_ {w : World} {v : Value} {n : Nat} {zs : List Int} (h : Zs w v n zs) {k : Nat} (hk : k < n) : ∃ g cap x, v = .slice (some ⟨g, 0, none⟩) n cap ∧ w.cell? ⟨g, k, none⟩ = some (.int .u8 x) ∧ w.frozen? ⟨g, k, none⟩ = false ∧ g < w.heap.size ∧
    ∀ y, Zs (w.setCell ⟨g, k, none⟩ (.int .u8 y)) v n (zs.set k y) := by
  obtain ⟨g, cap, rfl, hg, hnc, hcm, hth, hra⟩ := Has.form h (by omega)
  have hl := h.len
  have h1 := hra k (.int .u8 zs[k]) (by simp [hl, hk])
  have h2 := (hth k (by omega)).2
  rw [Nat.zero_add] at h1 h2
  refine ⟨g, cap, zs[k], rfl, h1, h2, hg, fun y => ?_⟩
  have := Has.set h k [.int .u8 y] (by simp; omega)
  have e : (zs.map (Value.int .u8)).take k ++ [.int .u8 y] ++ (zs.map (Value.int .u8)).drop (k + [Value.int .u8 y].length) = (zs.set k y).map (Value.int .u8) := by
    rw [List.set_eq_take_append_cons_drop, if_pos (by omega), List.map_append, List.map_cons, List.map_take, List.map_drop, List.append_assoc]; rfl
  rw [e] at this
  exact this
theorem Zs.fr {S : Nat → Prop} {w w' : World} {v : Value} {n : Nat} {zs : List Int} (h : Zs w v n zs) (f : Fr S w w') (hn : ∀ k, v.ownBlock = some k → ¬ S k) : Zs w' v n zs := Has.fr h f hn

set_option maxHeartbeats 2000000 in
theorem walk (w : World) (a0 : Option Addr) (len0 cap0 : Nat) (l0 : List Nat) (hl0 : len0 = l0.length) (z0 : cap0 ≤ 140737488351232) (hr0 : Row w a0 cap0 l0) :
    Calls Try.prog 4 #[.slice a0 len0 cap0] w fun e w' => e = .returned (.bool true) ∧ Fr (fun _ => False) w w' := by
  obtain ⟨i0, hi, hz0, hz1, hz2⟩ := info_parts info8
  subst hl0
  by_cases hlong : 65535 < l0.length
  · have hl' : (65535 : Int) < (l0.length : Int) := by omega
    go_enter Try.func4, Try.ntmps4
    go_wp2_with fail
    refine (new_ok 2 (by omega) (by omega) _).mono ?_
    rintro e w1 ⟨rfl, rfl⟩
    go_wp2_with fail
    refine (speaks_any _).mono ?_
    rintro e w2 ⟨rfl, f2⟩
    go_wp2
    go_ret
    exact ⟨rfl, ((Fr.refl (fun _ => False) w).alloc _).false_trans f2⟩
  · have hl' : (l0.length : Int) ≤ 65535 := by omega
    have hsm : l0.length ≤ 65535 := by omega
    clear hlong
    obtain ⟨n, hn⟩ : ∃ n, n = l0.length := ⟨_, rfl⟩
    have HN : Hid (n = l0.length) := hn
    rw [← hn] at hl' ⊢
    clear hn
    go_enter Try.func4, Try.ntmps4
    go_wp2_with fail
    refine (new_ok 2 (by omega) (by omega) _).mono ?_
    rintro e w1 ⟨rfl, e1⟩
    have n1 : NetA w w1 w.heap.size 2 (.slice none 0 0) [] := by rw [e1]; exact NetA.new 2 (by omega) (by omega) w
    clear e1
    generalize w.heap.size = nb at n1 ⊢
    go_wp2_with (at_builtin; refine wpList_append_has _ rfl _ _ 29 29 5 5 rfl i0 _ 1 1 Try.underlying29 Try.underlying29 hi hz0 hz1 hz2 rfl (by omega) (.slice none 0 0) 0 [] rfl (Has.nil _ _) a0 n cap0 (cellsOf l0) rfl (by rw [cellsOf_length, HN.out]; omega) ((hr0.same n1.fr).from) (cellsOf_oneCell l0) (by unfold maxLen; omega) (by omega) ?_; intro am cm w2 hown hfr hat)
    have hm : Has w2 1 (.slice am n cm) n (cellsOf l0) := by simpa using hown
    have f12 : Fr (fun _ => False) w1 w2 := hfr.mono (fun k _ e => by simp [Value.ownBlock] at e)
    have n2 := n1.same f12
    have hmB : ∀ k, (Value.slice am n cm).ownBlock = some k → nb < k := fun k hk => by
      have hlt := n1.net.lt (.inl rfl)
      rcases hat with h | h
      · have h' : (Value.slice am n cm).ownBlock = none := by simpa [Value.ownBlock] using h
        rw [hk] at h'; cases h'
      · have h' : (Value.slice am n cm).ownBlock = some w1.heap.size := by simpa [Value.ownBlock] using h
        rw [hk] at h'
        simp at h'
        omega
    have hmT : ∀ k, (Value.slice am n cm).ownBlock = some k → k < w2.heap.size := fun k hk => hm.lt hk
    have rm := hm.bytes hr0.byte (by omega)
    have HB : Hid (∀ k, (Value.slice am n cm).ownBlock = some k → nb < k ∧ k < w2.heap.size) := fun k hk => ⟨hmB k hk, hmT k hk⟩
    clear hown hfr hat hmB hmT n1 f12
    have hs := send_ok nb 2 _ [] _ n2.net 0 1 (by omega) (by omega) (by omega) (by omega) am cm l0 rm hsm (by simp)
    rw [← HN.out] at hs
    go_wp2_with fail
    refine hs.mono ?_
    rintro e w3 ⟨rfl, v3, a3, c3, k3, f3, o3, r3⟩
    clear hs
    have n3 := n2.step k3 f3 o3
    have m3 := hm.fr f3 (fun k hk e => by
      have := HB.out k hk
      rcases e with e | e
      · omega
      · cases e)
    have z3 := f3.size
    have d3 : ∀ k, (Value.slice am n cm).ownBlock = some k → ¬ netS nb v3 k := fun k hk e => by
      have := HB.out k hk
      rcases netS_step o3 e with e | e
      · rcases e with e | e
        · omega
        · cases e
      · omega
    have e3 : ([] ++ [(⟨0, 1, a3, c3, l0⟩ : Msg)]) = [⟨0, 1, a3, c3, l0⟩] := rfl
    rw [e3] at n3
    clear k3 f3 o3 n2 hm rm e3
    go_wp2_with fail
    refine (copy_ok nb 2 _ _ _ n3.net 0 ⟨0, 1, a3, c3, l0⟩ rfl (by simp)).mono ?_
    rintro e w4 ⟨rfl, v4, k4, f4, o4⟩
    have n4 := n3.step k4 f4 o4
    have m4 := m3.fr f4 d3
    have z4 := f4.size
    have d4 : ∀ k, (Value.slice am n cm).ownBlock = some k → ¬ netS nb v4 k := fun k hk e => by
      rcases netS_step o4 e with e | e
      · exact d3 k hk e
      · have := HB.out k hk; omega
    have e4 : ([(⟨0, 1, a3, c3, l0⟩ : Msg)] ++ [⟨0, 1, a3, c3, l0⟩]) = [⟨0, 1, a3, c3, l0⟩, ⟨0, 1, a3, c3, l0⟩] := rfl
    rw [e4] at n4
    clear k4 f4 o4 n3 m3 d3 e4
    go_wp2_with fail
    refine (flight_any nb 2 _ _ _ n4.net).mono ?_
    rintro e w5 ⟨g, ms', rfl, hp, hc, ho, hg, f5⟩
    obtain ⟨p, q, rfl⟩ : ∃ p q, ms' = [p, q] := by
      have := congrArg List.length hc
      match ms', this with
      | [p, q], _ => exact ⟨p, q, rfl⟩
    obtain ⟨fp, tp, ap, cp, lp⟩ := p
    have hlp : lp = l0 := by
      have : (Msg.cont ⟨fp, tp, ap, cp, lp⟩) = Msg.cont ⟨0, 1, a3, c3, l0⟩ := by simpa using (List.cons.inj hc).1
      simpa [Msg.cont] using (congrArg (fun x => x.2.2) this)
    subst hlp
    obtain ⟨hop, hog⟩ := ho ⟨fp, tp, ap, cp, lp⟩ (by simp)
    have c5 : w5.cell? ⟨g, 2, none⟩ = some (.slice ap n cp) := by
      have := (hp.elem mc_length (i := 0) (x := ⟨fp, tp, ap, cp, lp⟩) rfl) 2 _ rfl
      rw [HN.out]
      simpa using this
    simp only at hop hog
    rw [← HN.out] at hop hog
    have n5 := n4.same f5
    have m5 : Zs w5 (.slice am n cm) n (lp.map (fun (x : Nat) => (x : Int))) := by
      have := m4.fr f5 (fun _ _ f => f)
      rw [cells_ints] at this
      exact this
    have y5 : Zs w5 (.slice ap n cp) n (lp.map (fun (x : Nat) => (x : Int))) := by
      have := hop
      rw [cells_ints] at this
      exact this
    have z5 := f5.size
    have hg5 : g < w5.heap.size := World.block_lt_of_cell? w5 ⟨g, 2, none⟩ c5
    have b4 : ∀ {k}, netS nb v4 k → k < w4.heap.size := fun {k} hk => n4.net.lt hk
    have HO : Hid (∀ k, (Value.slice ap n cp).ownBlock = some k → g < k) := hog
    have ha3 : Hid (∀ b off, a3 = some ⟨b, off, none⟩ → w2.heap.size ≤ b) := r3
    have hb3 : Hid (∀ b off, a3 = some ⟨b, off, none⟩ → lp ≠ [] → b < w4.heap.size) := fun b off ha hl => (n4.net.bytes ⟨0, 1, a3, c3, lp⟩ (by simp)).1.lt ha hl
    clear hp hc ho hop hog n4 m4 r3
    go_wp2
    go_loopw [50] (fun i wr => ∃ (k : Nat) (zs : List Int), k ≤ n ∧ i = .int .i64 k ∧ Zs wr (.slice am n cm) n zs ∧ Fr (fun j => (Value.slice am n cm).ownBlock = some j) w5 wr)
      (fun i _ => n - (intOf i).toNat)
    case atStart => exact ⟨0, _, by omega, rfl, m5, Fr.refl _ _⟩
    case round =>
    obtain ⟨k, zs, hk, rfl, hz, hf⟩ := hrel
    by_cases hlt : k < n
    · obtain ⟨gm, cm', x, hv, hx, hfz, _, hset⟩ := hz.at_ hlt
      simp only [Value.slice.injEq, true_and] at hv
      obtain ⟨rfl, rfl⟩ := hv
      have hki : (k : Int) < (n : Int) := by omega
      go_wp2
      go_roundw
      case rel => exact ⟨k + 1, _, by omega, by go_num, hset _, hf.setCell (p := ⟨gm, k, none⟩) (fun _ => rfl) _⟩
      case measure => simp [intOf]; omega
    have : k = n := by omega
    subst this
    obtain ⟨w6, rfl⟩ : ∃ w6, w6 = wr := ⟨_, rfl⟩
    have n6 : NetA w w6 nb 2 v4 [⟨0, 1, a3, c3, lp⟩, ⟨0, 1, a3, c3, lp⟩] := ⟨n5.net.framed hf (fun j hj e => d4 j e hj) (fun m hm b off ha hl e => by
        have hm' : m = ⟨0, 1, a3, c3, lp⟩ := by simpa using hm
        subst hm'
        have := ha3.out b off ha
        have := HB.out b e
        omega), n5.low, n5.fr.above hf (fun j hj => by have := HB.out j hj; have := n5.low nb (.inl rfl); omega)⟩
    have c6 : w6.cell? ⟨g, 2, none⟩ = some (.slice ap k cp) := (hf.cell hg5 (fun e => by have := HB.out g e; omega)).trans c5
    have y6 : Zs w6 (.slice ap k cp) k (lp.map (fun (x : Nat) => (x : Int))) := y5.fr hf (fun j hj e => by have := HO.out j hj; have := HB.out j e; omega)
    have hg6 : g < w6.heap.size := World.block_lt_of_cell? w6 ⟨g, 2, none⟩ c6
    clear y5 m5 c5 hz hlt n5 d4 hf
    go_wp2
    go_loopw [80] (fun i wr => ∃ (j : Nat) (zs : List Int), j ≤ k ∧ i = .int .i64 j ∧ Zs wr (.slice ap k cp) k zs ∧ Fr (fun b => (Value.slice ap k cp).ownBlock = some b) w6 wr)
      (fun i _ => k - (intOf i).toNat)
    case atStart => exact ⟨0, _, by omega, rfl, y6, Fr.refl _ _⟩
    case round =>
    obtain ⟨j, zs, hj, rfl, hz, hf⟩ := hrel
    have c7 : wr.cell? ⟨g, 2, none⟩ = some (.slice ap k cp) := (hf.cell hg6 (fun e => by have := HO.out g e; omega)).trans c6
    by_cases hlt : j < k
    · obtain ⟨gm, cm', x, hv, hx, hfz, _, hset⟩ := hz.at_ hlt
      simp only [Value.slice.injEq, true_and] at hv
      obtain ⟨rfl, rfl⟩ := hv
      have hki : (j : Int) < (k : Int) := by omega
      go_wp2
      go_region
      all_goals
        go_wp2
        go_roundw
        case rel => exact ⟨j + 1, _, by omega, by go_num, (hset _).fr ((Fr.refl (fun _ => False) _).drew) (fun _ _ f => f), (hf.setCell (p := ⟨gm, j, none⟩) (fun _ => rfl) _).drew⟩
        case measure => simp [intOf]; omega
    have : j = k := by omega
    subst this
    obtain ⟨w7, rfl⟩ : ∃ w7, w7 = wr := ⟨_, rfl⟩
    have n7 : NetA w w7 nb 2 v4 [⟨0, 1, a3, c3, lp⟩, ⟨0, 1, a3, c3, lp⟩] := ⟨n6.net.framed hf (fun b hb e => by have := HO.out b e; have := b4 hb; omega) (fun m hm b off ha hl e => by
        have hm' : m = ⟨0, 1, a3, c3, lp⟩ := by simpa using hm
        subst hm'
        have := hb3.out b off ha hl
        have := HO.out b e
        omega), n6.low, n6.fr.above hf (fun b hb => by have := HO.out b hb; have := n6.low nb (.inl rfl); have := b4 (k := nb) (.inl rfl); omega)⟩
    clear y6 c6 c7 hz hlt n6 hf
    go_wp2_with fail
    have hpk := pick_ok nb 2 _ _ _ n7.net 0 ⟨0, 1, a3, c3, lp⟩ rfl
    simp only [← HN.out] at hpk
    refine hpk.mono ?_
    rintro e w8 ⟨a8, c8, rfl, h8, v8, k8, f8, o8, d8⟩
    clear hpk
    have n8 := n7.step k8 f8 o8
    have e8 : ([(⟨0, 1, a3, c3, lp⟩ : Msg), ⟨0, 1, a3, c3, lp⟩].eraseIdx 0) = [⟨0, 1, a3, c3, lp⟩] := rfl
    rw [e8] at n8
    have far8 := pick_far n7.net h8 (by rw [← HN.out]; exact d8)
    have hb8 : ∀ b off, a3 = some ⟨b, off, none⟩ → lp ≠ [] → b < w7.heap.size := fun b off ha hl => (n7.net.bytes ⟨0, 1, a3, c3, lp⟩ (by simp)).1.lt ha hl
    have hnew : ∀ b, (Value.slice a8 j c8).ownBlock = some b → w7.heap.size ≤ b := fun b hb => h8.new b (by rw [← HN.out]; exact hb)
    have htop : ∀ b, (Value.slice a8 j c8).ownBlock = some b → b < w8.heap.size := fun b hb => h8.has.lt (by rw [← HN.out]; exact hb)
    have y8 : Zs w8 (.slice a8 j c8) j (lp.map (fun (x : Nat) => (x : Int))) := by
      have := h8.has
      rw [cells_ints, ← HN.out] at this
      exact this
    have HW : Hid (∀ b, (Value.slice a8 j c8).ownBlock = some b → w7.heap.size ≤ b ∧ b < w8.heap.size) := fun b hb => ⟨hnew b hb, htop b hb⟩
    have HT : Hid (∀ b off, a3 = some ⟨b, off, none⟩ → lp ≠ [] → b < w7.heap.size) := hb8
    have HV : Hid (∀ b, (Value.slice a8 j c8).ownBlock = some b → ¬ netS nb v8 b) := fun b hb => by
      rcases hbx : a8 with _ | ⟨b', off', sp'⟩
      · rw [hbx] at hb; cases hb
      · rw [hbx] at hb
        simp only [Value.ownBlock, Option.some.injEq] at hb
        subst hb
        rcases y8.2 with ⟨h1, _⟩ | ⟨g', cap', h1, _⟩
        · rw [hbx] at h1; cases h1
        · rw [hbx] at h1
          simp only [Value.slice.injEq, Option.some.injEq, Addr.mk.injEq] at h1
          exact far8 b' off' (by rw [hbx, h1.1.2.2])
    have zw7 := n7.fr.size
    clear k8 f8 o8 d8 h8 far8 hb8 hnew htop n7 e8
    have f9 : Fr (fun _ => False) w8 (w8.alloc (.cells #[.int .i64 0, .int .i64 1, .slice a8 j c8] 36)) := (Fr.refl (fun _ => False) w8).alloc _
    have n9 := n8.same f9
    have y9 := y8.fr f9 (fun _ _ f => f)
    have hb9 := heap_alloc_new w8 (.cells #[.int .i64 0, .int .i64 1, .slice a8 j c8] 36)
    clear n8 y8 f9
    go_wp2
    go_loopw [106] (fun i wr => ∃ (t : Nat) (zs : List Int), t ≤ j ∧ i = .int .i64 t ∧ Zs wr (.slice a8 j c8) j zs ∧ Fr (fun b => (Value.slice a8 j c8).ownBlock = some b) (w8.alloc (.cells #[.int .i64 0, .int .i64 1, .slice a8 j c8] 36)) wr)
      (fun i _ => j - (intOf i).toNat)
    case atStart => exact ⟨0, _, by omega, rfl, y9, Fr.refl _ _⟩
    case round =>
    obtain ⟨t, zs, ht, rfl, hz, hf⟩ := hrel
    have hb10 := hf.block_eq hb9 (fun e => by have := HW.out _ e; omega)
    have c10 := cell_at hb10 2
    simp only [List.getElem?_toArray, List.getElem?_cons_zero, List.getElem?_cons_succ] at c10
    by_cases hlt : t < j
    · obtain ⟨gm, cm', x, hv, hx, hfz, _, hset⟩ := hz.at_ hlt
      simp only [Value.slice.injEq, true_and] at hv
      obtain ⟨rfl, rfl⟩ := hv
      have hki : (t : Int) < (j : Int) := by omega
      clear hb10
      go_wp2
      go_region
      all_goals
        go_wp2
        go_roundw
        case rel => exact ⟨t + 1, _, by omega, by go_num, (hset _).fr ((Fr.refl (fun _ => False) _).drew) (fun _ _ f => f), (hf.setCell (p := ⟨gm, t, none⟩) (fun _ => rfl) _).drew⟩
        case measure => simp [intOf]; omega
    have : t = j := by omega
    subst this
    obtain ⟨w10, rfl⟩ : ∃ w10, w10 = wr := ⟨_, rfl⟩
    have n10 : NetA w w10 nb 2 v8 [⟨0, 1, a3, c3, lp⟩] := ⟨n9.net.framed hf (fun b hb e => HV.out b e hb) (fun m hm b off ha hl e => by
        have hm' : m = ⟨0, 1, a3, c3, lp⟩ := by simpa using hm
        subst hm'
        have := HT.out b off ha hl
        have := HW.out b e
        omega), n9.low, n9.fr.above hf (fun b hb => by have := HW.out b hb; omega)⟩
    clear y9 hb9 hb10 c10 hz hlt n9 hf
    go_wp2_with fail
    have hpk := pick_ok nb 2 _ _ _ n10.net 0 ⟨0, 1, a3, c3, lp⟩ rfl
    simp only [← HN.out] at hpk
    refine hpk.mono ?_
    rintro e w11 ⟨a11, c11, rfl, h11, v11, k11, f11, o11, d11⟩
    clear hpk
    have n11 := n10.step k11 f11 o11
    have r11 := h11.has.bytes hr0.byte (by omega)
    have f12 : Fr (fun _ => False) w11 (w11.alloc (.cells #[.int .i64 0, .int .i64 1, .slice a11 t c11] 36)) := (Fr.refl (fun _ => False) w11).alloc _
    have n12 := n11.same f12
    have cva := run_str (P := Try.prog) (src := 29) (dst := 9) Try.underlying29 Try.underlying5 Try.underlying9 (r11.same f12) t HN.out
    have cvb := run_str (P := Try.prog) (src := 29) (dst := 9) Try.underlying29 Try.underlying5 Try.underlying9 (hr0.same n12.fr) t HN.out
    clear k11 f11 o11 d11 h11 n11 n10 r11
    go_wp2_with fail
    refine (speaks_any _).mono ?_
    rintro e w13 ⟨rfl, f13⟩
    go_wp2
    go_ret
    exact ⟨rfl, n12.fr.false_trans f13⟩

set_option maxRecDepth 100000 in
theorem lifted (os : Os) (started : os.Started) (H : Type) (enc : TypeId × Value → H) :
    ReturnsInHanded {} Try.checked os 4 .any (Rows.netOwnSpec.pre6 enc Try.prog Try.f4 Rows.netOwnRow.domain false) (Rows.netOwnSpec.post enc Try.prog Try.f4 false true false false) := by
  refine returnsInHanded_of_change_sized (C := Try.checked) own started (by kernel_rfl) Try.func4
    (ChangeSpec.witness6 (enc := enc) (C := Try.checked) false ⟨#[], #[.slice none 0 0], []⟩ 8 (by kernel_rfl) (by kernel_rfl) (by kernel_rfl) (by kernel_rfl)) ?_
  intro W base args ds gs before hval0 hW hcnd hsz0 _
  have hsz : (DataW.weightsEach Try.prog (Try.f4.params.toList ++ Rows.netOwnSpec.plain.varTypes Try.prog) (ds ++ gs)).all (· ≤ reachBytes) = true := hsz0
  clear hsz0
  have hval : ∀ (j : Nat) t v, Try.f4.params[j]? = some t → args[j]? = some v → Value.okWide Try.prog W .any base t v := hval0
  have hW' := hW
  obtain ⟨p, q, hA0, hV, rfl, hfz, hnd⟩ := hW
  have hA : DataW.TrodAll enc Try.prog W 0 (fun _ => true) true Try.f4.params.toList args.toList ds p := hA0
  rw [Try.params4] at hA hval hsz
  obtain ⟨v0, vs0, d0, ds0, p0, q0, hargs, rfl, rfl, h0, r0⟩ := trodAll_cons hA
  obtain ⟨rfl, rfl, rfl⟩ := trodAll_nil r0
  obtain rfl : args = #[v0] := by cases args; simp_all
  obtain ⟨rfl, rfl⟩ := trodVars_none hV
  obtain ⟨a0, len0, cap0, rfl⟩ := okWide_slice Try.underlying29 (hval 0 29 v0 rfl rfl)
  have k0 := h0
  have lt0 : ∀ x ∈ p0, x.block < W.heap.size := by obtain ⟨m, hm⟩ := k0; exact DataW.trod_lt m _ _ _ hm
  obtain ⟨l0, hl0, z0, hr0⟩ : ∃ l : List Nat, len0 = l.length ∧ cap0 ≤ 140737488351232 ∧ Row W a0 cap0 l := by
    obtain ⟨fuel, hf⟩ := h0
    rcases open_ints Try.underlying29 Try.underlying5 (by kernel_rfl) hf with ⟨hcs, _⟩ | ⟨x, l, c, zs, hcs, _, hl, hm, hz, hx, hcell, hwz⟩
    · simp [Value.cells] at hcs
      obtain ⟨rfl, rfl, rfl⟩ := hcs
      exact ⟨[], rfl, by omega, row_nil _ _⟩
    · simp [Value.cells] at hcs
      obtain ⟨rfl, rfl, rfl⟩ := hcs
      have hz' : zs.length = cap0 := by simpa using hz
      have hd : d0 = .slice (lits .u8 (zs.take len0)) (lits .u8 (zs.drop len0)) := congrArg Prod.fst hx
      have hcap : cap0 ≤ 140737488351232 := by
        have := sized_slice hsz (j := 0) (t := 29) (e := 5) rfl (by rw [hd]; rfl) Try.underlying29
        rw [bytes8] at this
        simp only [lits, List.length_map, List.length_take, List.length_drop, reachBytes] at this
        omega
      obtain ⟨l, h1, h2⟩ := row_of_ints hl (Nat.le_trans hcap (by omega)) hz' hcell hwz
      exact ⟨l, h1, hcap, h2⟩
  clear hA0 hval0
  refine (walk W a0 len0 cap0 l0 hl0 z0 hr0).mono fun e W' ⟨he, fr⟩ => ?_
  have bel : Below W.heap.size W W' := fr.below (Nat.le_refl _) (fun _ f => f.elim)
  subst he
  exact ⟨_, rfl, _, _, _, [], _, [], hW', trodAll_mk1 (shut_bool Try.underlying4 _), (trodAll_cons_mk (Below.trod laidOut (by kernel_rfl) (of_decide_eq_true (by kernel_rfl)) k0 bel lt0) trodAll_mk0), rfl, bel.frame _, fun h => by cases h⟩

theorem proved : Rows.NetOwnSaid :=
  OpenClaim.holds_of_wide 4 Try.f4 rfl rfl rfl rfl rfl rfl rfl ⟨rfl, rfl, rfl, rfl, rfl⟩ rfl rfl rfl rfl rfl (by kernel_rfl) Try.func4 (by kernel_rfl)
    (of_decide_eq_true (by kernel_rfl)) (by unfold Func.isWrapper; first | (rw [if_pos (by decide +kernel)]; kernel_rfl) | (rw [if_neg (by decide +kernel)]; exact ⟨rfl, rfl⟩))
    (fun os started H enc _ => lifted os started H enc)
end Go.Proofs.Ytplkdjmajagpcab.netOwn
namespace Go.Proofs.Ytplkdjmajagpcab
theorem netOwn_holds : Rows.NetOwnSaid := netOwn.proved
#print axioms netOwn_holds
end Go.Proofs.Ytplkdjmajagpcab
