
/- RsSpk, RsArg, RsSame, RsAg. -/
import Derived.Test.YtkibbojiflklpaaGreatRXH
import Derived.Test.YtkibbojiflklpaaGreatReA4
import Derived.Test.YtkibbojiflklpaaGreatRXD
import Derived.ChangeSlices
import Derived.Test.YtkibbojiflklpaaGreatBB33
import Derived.Test.YtkibbojiflklpaaGreatRgEncN
/- Restart: the numbers of torn images, and that restart speaks. -/
namespace Go.Proofs.YtkibbojiflklpaaGreat
open Go.RowKit Crcm

set_option maxRecDepth 100000 in
set_option maxHeartbeats 1000000 in
theorem torn_any (a : Option Addr) (n c : Nat) (ims : List Im) (hn : n = ims.length) (hf : n ≤ 100000) (w : World) (h : Ims w a c ims) : Calls Tryz.prog 31 #[.slice a n c] w fun e w' => ∃ ab cb, e = .returned (.slice ab (tolB ims).length cb) ∧ Fr (fun _ => False) w w' := by
  have htd := told_any a n c ims hn hf w h
  clear h hn
  go_enter Tryz.func31, Tryz.ntmps31
  go_wp2_with fail
  refine htd.mono ?_
  rintro e w1 ⟨ap, cp, lp, ab, cb, B, rfl, ht, f1⟩
  have hB : B.length = (tolB ims).length := by
    have := ht.bs
    rw [List.take_length] at this
    rw [this]
  rw [hB]
  obtain ⟨nb, hnb⟩ : ∃ nb, nb = (tolB ims).length := ⟨_, rfl⟩
  have HNB : Hid (nb = (tolB ims).length) := hnb
  rw [← hnb]
  obtain ⟨np, hnp⟩ : ∃ np, np = lp.length := ⟨_, rfl⟩
  rw [← hnp]
  clear htd ht hB hnb hnp
  go_wp2
  go_ret
  exact ⟨ab, cb, by rw [HNB.out]; rfl, f1⟩
def rs1 : Rec := ⟨0, 0, 2, 1, 0, 0, ⟨#[97]⟩, ⟨#[120]⟩⟩
def rt1 : Rec := ⟨1, 0, 2, 1, 0, 0, ⟨#[97]⟩, ⟨#[120]⟩⟩
def rn1 : Nd := ⟨0, 1, 0, ⟨#[]⟩, [⟨#[97]⟩], [⟨#[120]⟩], []⟩
theorem rap1 : Re.apE [] rs1 = 0 := by decide +kernel
theorem rap1L : Re.apL [] rs1 = [rt1] := by unfold Re.apL; rw [if_pos rap1]; rfl
theorem rap1N : Re.apN [] rs1 = 1 := by unfold Re.apN; rw [if_pos rap1]; rfl
theorem rwl1 : Re.Wl [rt1] := rap1L ▸ Re.wl_ap Re.wl_nil rs1
theorem rread1 : (Re.wread (Re.lfr [rt1])).1 = [rt1] := by
  have := Re.wread_torn [rt1] rwl1 [] (by rw [Re.rdec_empty]; decide)
  rw [List.append_nil] at this
  rw [this]
theorem rlen1 : (Re.lfr [rt1]).length ≤ 1000 := by unfold Re.lfr; rw [List.flatMap_cons, List.flatMap_nil, List.append_nil, frm_length]; decide
theorem rrpl1 : rplA [(1, zn)] [rt1] = ([(1, rn1)], 0) := by kernel_rfl
theorem rck1 : ckP [(1, rn1)] = 0 := by kernel_rfl
theorem rbk1 : bkO [] (Re.lfr [rt1]) 1 = ([(1, rn1)], 1, 0) := by
  unfold bkO
  rw [rread1, if_neg (by simp [riB])]
  rw [if_neg (by show ¬ ((1 : Int) < 0); omega)]
  have h1 : (if tolB [] = [] then (1 : Int) else 1) = 1 := rfl
  rw [h1, frF_all (by decide)]
  have h2 : rootP (tolP []) = [(1, zn)] := rfl
  rw [h2, rrpl1, if_pos ⟨rfl, rck1⟩]
  rfl
def im1 (a : Option Addr) : Im := ⟨3, a, 1, [1]⟩
theorem imb1 (a : Option Addr) : tolB [im1 a] = [3] := by kernel_rfl
set_option maxRecDepth 100000 in
set_option maxHeartbeats 8000000 in
theorem rsspk_any (w : World) : Calls Tryz.prog 6 #[] w fun e w' => e = .returned (.bool true) ∧ Fr (fun _ => False) w w' := by
  have HNL : Hid (∀ W, Re.Lg W w.heap.size (.slice none 0 0) [] 0 → Calls Tryz.prog 29 #[.pointer (some ⟨w.heap.size, 0, none⟩), (.agg #[.int .i64 rs1.lsn, .int .i64 rs1.ep, .int .i64 rs1.kind, .int .i64 rs1.page, .int .i64 rs1.other, .int .i64 rs1.req, .string rs1.key, .string rs1.val])] W fun e w' => e = .returned (.tuple #[.int .i64 1, .int .i64 0]) ∧ ∃ rv', Re.Lg w' w.heap.size rv' [rt1] 0 ∧ Fr (Re.lgS w.heap.size (.slice none 0 0)) W w') := fun W h => by
    refine (Re.append_lg rs1 _ _ [] 0 W h Re.wl_nil).mono ?_
    rw [rap1, rap1N, rap1L]
    rintro e w' ⟨rfl, rv', h1, h2, _⟩
    exact ⟨rfl, rv', h1, h2⟩
  have HO : Hid (octs (Re.lfr [rt1])) := Re.lfr_octs _
  have HBK : Hid (bkO [] (Re.lfr [rt1]) 1 = ([(1, rn1)], 1, 0)) := rbk1
  have hll := rlen1
  obtain ⟨lg, hlg⟩ : ∃ lg, lg = Re.lfr [rt1] := ⟨_, rfl⟩
  rw [← hlg] at HO HBK hll
  have HLG : Hid (lg = Re.lfr [rt1]) := hlg
  clear hlg
  go_enter Tryz.func6, Tryz.ntmps6
  go_wp2_with fail
  refine (Re.wnew_any w).mono ?_
  rintro e w1 ⟨rfl, l1, f1, hz1⟩
  go_wp2_with fail
  refine (HNL.out _ l1).mono ?_
  rintro e w2 ⟨rfl, rv2, l2, f2⟩
  have F2 := f1.trans f2 (S := fun _ => False) (fun i hi e => Or.elim e (fun e => by omega) (fun e => by cases e))
  clear l1 f1 f2
  go_wp2_with fail
  refine (Re.bytes_lg _ _ _ _ _ l2 rwl1).mono ?_
  rintro e w3 ⟨v3, rfl, m3⟩
  have m4 := m3
  rw [← HLG.out] at m4
  obtain ⟨a3, c3, rfl, r3⟩ := m4.own.row HO.out (by omega)
  have F3 : Hid (Fr (fun _ => False) w w3) := F2.seq' m3.fr
  have hbk := back_any none 0 0 [] rfl a3 lg.length c3 lg rfl 1 ⟨by omega, by omega⟩ w3 ⟨Nat.le_refl _, by omega, .inl rfl, (fun i hi => by cases hi)⟩ r3
  rw [HBK.out] at hbk
  unfold BkR at hbk
  dsimp only at hbk
  obtain ⟨nl, hnl⟩ : ∃ nl, nl = lg.length := ⟨_, rfl⟩
  rw [← hnl] at hbk ⊢
  clear m3 m4 l2 r3 F2 hnl hll hz1
  go_wp2_with fail
  refine hbk.mono ?_
  rintro e w4 ⟨a4, c4, l4, rfl, sv4, ps4, f4⟩
  have hl1 : l4.length = 1 := by
    have := congrArg List.length ps4
    rwa [ps_length] at this
  obtain ⟨s, hs⟩ : ∃ s, l4 = [s] := by
    match l4, hl1 with
    | [s], _ => exact ⟨s, rfl⟩
  subst hs
  have hsp : s.page = 1 ∧ s.nd = rn1 := by
    have := (List.cons.inj ps4).1
    simpa using this
  have hsl := sv4.slots (n := 1) rfl
  obtain ⟨bb, off, rfl, hbb, hcc⟩ := hsl.some (by simp)
  have hc1 : 1 ≤ c4 := hsl.le
  have hmx := hsl.max
  have HSR : Hid (∀ W, Fr (fun _ => False) w4 W → W.cell? ⟨bb, off, none⟩ = some (.int .i64 1) ∧ W.cell? ⟨bb, off + 5, none⟩ = some (.slice s.pt.k 1 s.pt.kc)) := fun W g => by
    have h := sl_range (range_fr (hcc 0 s rfl) g (fun e => e))
    obtain ⟨p0, _, _, _, _, p5, _, _⟩ := h
    rw [hsp.1] at p0
    rw [hsp.2, show rn1.keys.length = 1 from rfl] at p5
    exact ⟨by simpa using p0, by simpa using p5⟩
  obtain ⟨p0, p5⟩ := HSR.out _ (Fr.refl _ _)
  have HF4 : Hid (Fr (fun _ => False) w w4) := F3.out.seq' f4
  clear hbk sv4 ps4 hsl hcc f4 hsp hl1
  have HB1 : Hid ((w4.alloc (.cells #[.int .u8 1] 5)).heap[w4.heap.size]? = some (.cells #[.int .u8 1] 5 (0, 0))) := heap_alloc_new w4 _
  have F6 : Fr (fun _ => False) w4 ((w4.alloc (.cells #[.int .u8 1] 5)).alloc (.cells #[.int .i64 3, .slice (some ⟨w4.heap.size, 0, none⟩) 1 1] 39)) := (Fr.box _ _).seq' (Fr.box _ _)
  have HF6 : Hid (Fr (fun _ => False) w ((w4.alloc (.cells #[.int .u8 1] 5)).alloc (.cells #[.int .i64 3, .slice (some ⟨w4.heap.size, 0, none⟩) 1 1] 39))) := HF4.out.seq' F6
  have hb6 := (Fr.box (w4.alloc (.cells #[.int .u8 1] 5)) (.cells #[.int .i64 3, .slice (some ⟨w4.heap.size, 0, none⟩) 1 1] 39)).blk HB1.out (fun e => e)
  have hims : Ims ((w4.alloc (.cells #[.int .u8 1] 5)).alloc (.cells #[.int .i64 3, .slice (some ⟨w4.heap.size, 0, none⟩) 1 1] 39)) (some ⟨w4.heap.size + 1, 0, none⟩) 1 [im1 (some ⟨w4.heap.size, 0, none⟩)] := by
    refine ⟨by simp, by omega, .inr ⟨w4.heap.size + 1, 0, rfl, by simp, fun i r hr => ?_⟩, fun i hi => ?_⟩
    · have hi0 : i = 0 := by
        cases i with
        | zero => rfl
        | succ j => cases hr
      subst hi0
      cases hr
      have := range_block (heap_alloc_new (w4.alloc (.cells #[.int .u8 1] 5)) (.cells #[.int .i64 3, .slice (some ⟨w4.heap.size, 0, none⟩) 1 1] 39)) (xs := imC (im1 (some ⟨w4.heap.size, 0, none⟩))) (o := 0) (fun j v hv => by rw [Nat.zero_add]; simpa [imC, im1] using hv)
      simpa using this
    · rw [List.mem_singleton] at hi
      subst hi
      refine ⟨by simp [im1], by show (1 : Nat) ≤ _; omega, by simp [im1], fun x hx => by simp [im1] at hx; omega, .inr ⟨w4.heap.size, 0, rfl, lt_of_block hb6, fun i hi => ?_⟩⟩
      have hi0 : i = 0 := by simp [im1] at hi; omega
      subst hi0
      simp [World.cell?, hb6, im1]
  have htn := torn_any (some ⟨w4.heap.size + 1, 0, none⟩) 1 1 [im1 (some ⟨w4.heap.size, 0, none⟩)] rfl (by omega) _ hims
  rw [imb1] at htn
  clear hims hb6 F6
  go_wp2_with fail
  refine htn.mono ?_
  rintro e w6 ⟨ab, cb, rfl, f6⟩
  have HF7 : Hid (Fr (fun _ => False) w w6) := HF6.out.seq' f6
  clear htn f6
  go_wp2
  go_ret
  exact ⟨rfl, HF7.out⟩
end Go.Proofs.YtkibbojiflklpaaGreat

/- Images that came in. -/
namespace Go.Proofs.YtkibbojiflklpaaGreat
open Go.ChangeShapes Go.WideShapes Go.ChangeAt Go.RowKit Go.Deep

theorem icellsI : Tryz.prog.cellsOf 3 = 1 := by kernel_rfl
theorem icellsB : Tryz.prog.cellsOf 23 = 1 := by kernel_rfl
theorem icellsM : Tryz.prog.cellsOf 39 = 2 := by kernel_rfl
theorem ibytesU : Tryz.prog.bytesOf 5 = 1 := by kernel_rfl
theorem weights_allY {H : Type} {P : Program} {e : TypeId} {d : DataW H} : ∀ {l : List (DataW H)}, d ∈ l → ∀ z ∈ d.weights P e, z ∈ DataW.weightsAll P e l
  | _ :: _, h, z, hz => by
    simp only [DataW.weightsAll, List.mem_append]
    rcases List.mem_cons.1 h with rfl | h
    · exact .inl hz
    · exact .inr (weights_allY h z hz)
section
variable {H : Type} {enc : TypeId × Value → H} {w : World}
theorem row_in {fuel : Nat} {c0 : Value} {x : DataW H × List MemPlace} (h : DataW.trod enc Tryz.prog w 0 (fun _ => true) true fuel 23 [c0] = some x) (hz : ∀ z ∈ x.1.weights Tryz.prog 23, z ≤ reachBytes) : ∃ (a : Option Addr) (c : Nat) (l : List Nat), c0 = .slice a l.length c ∧ Row w a c l := by
  rcases open_ints Tryz.underlying23 Tryz.underlying5 (by kernel_rfl) h with ⟨hcs, _⟩ | ⟨x', l, c, zs, hcs, _, hl, hm, hzl, hx, hcell, hwz⟩
  · simp at hcs
    exact ⟨none, 0, [], hcs, row_nil _ _⟩
  · simp at hcs
    subst hcs
    have hz' : zs.length = c := by simpa using hzl
    have hd : x.1 = .slice (lits .u8 (zs.take l)) (lits .u8 (zs.drop l)) := by simpa using congrArg Prod.fst hx
    have hcap : c ≤ 140737488351232 := by
      rw [hd] at hz
      simp only [DataW.weights, Tryz.underlying23] at hz
      have h0 := hz _ (List.mem_cons_self ..)
      rw [ibytesU] at h0
      simp [reachBytes, lits] at h0
      omega
    obtain ⟨lb, h1, h2⟩ := row_of_ints hl hcap hz' hcell hwz
    subst h1
    exact ⟨_, _, lb, rfl, h2⟩
set_option maxRecDepth 100000 in
theorem im_in {fuel : Nat} {cs : List Value} {x : DataW H × List MemPlace} (hlen : cs.length = 2) (h : DataW.trod enc Tryz.prog w 0 (fun _ => true) true fuel 39 cs = some x) (hz : ∀ z ∈ x.1.weights Tryz.prog 39, z ≤ reachBytes) : ∃ i : Im, cs = imC i ∧ Row w i.a i.c i.bs := by
  obtain ⟨xs, n', _, hx, _, hxl, hfl⟩ := DataW.trod_struct Tryz.underlying39 h
  have t0 := hfl 0 _ rfl
  have t1 := hfl 1 _ rfl
  match xs, hxl with
  | [y0, y1], _ =>
  match cs, hlen with
  | [c0, c1], _ =>
    simp [icellsI, icellsB] at t0 t1
    have hd : x.1 = .agg [y0.1, y1.1] := by simpa using congrArg Prod.fst hx
    rw [hd] at hz
    simp only [DataW.weights, Tryz.underlying39] at hz
    have z1 : ∀ z ∈ y1.1.weights Tryz.prog 23, z ≤ reachBytes := fun z h => hz z (DataW.weights_mem_each (j := 1) rfl rfl z h)
    obtain ⟨b0, e0, _, _⟩ := DataW.trod_int Tryz.underlying3 t0
    simp only [List.cons.injEq, and_true] at e0
    subst e0
    obtain ⟨a, c, l, rfl, hr⟩ := row_in t1 z1
    exact ⟨⟨b0, a, c, l⟩, rfl, hr⟩
set_option maxRecDepth 100000 in
theorem ims_open {fuel len cap : Nat} {a : Option Addr} {d : DataW H} {p : List MemPlace}
    (h : DataW.trod enc Tryz.prog w 0 (fun _ => true) true fuel 22 [.slice a len cap] = some (d, p)) (hz : ∀ z ∈ d.weights Tryz.prog 22, z ≤ reachBytes) :
    ∃ ls : List Im, len = ls.length ∧ Ims w a cap ls := by
  rcases open_slice Tryz.underlying22 h with ⟨hcs, hx⟩ | ⟨x, l, c, m, n, D, Pl, hcs, _, hl, hm, hmm, hx, heach⟩
  · simp at hcs
    obtain ⟨rfl, rfl, rfl⟩ := hcs
    exact ⟨[], rfl, ⟨Nat.le_refl _, by omega, .inl rfl, (fun s hs => by cases hs)⟩⟩
  · simp at hcs
    obtain ⟨rfl, rfl, rfl⟩ := hcs
    simp only [if_true] at hmm
    subst hmm
    rw [icellsM] at heach
    have hd : d = .slice ((List.range len).map D) ((List.range (m - len)).map fun j => D (len + j)) := by simpa using congrArg Prod.fst hx
    rw [hd] at hz
    simp only [DataW.weights, Tryz.underlying22] at hz
    have hzi : ∀ i, i < len → ∀ z ∈ (D i).weights Tryz.prog 39, z ≤ reachBytes := fun i hi z h =>
      hz z (by simp only [List.mem_cons, List.mem_append]; exact .inr (.inl (weights_allY (List.mem_map.2 ⟨i, List.mem_range.2 hi, rfl⟩) z h)))
    have each : ∀ i, i < len → ∃ r : Im, (∀ j v, (imC r)[j]? = some v → w.cell? (x.add (i * 2 + j)) = some v) ∧ Row w r.a r.c r.bs := by
      intro i hi
      obtain ⟨cs', hc, ht'⟩ := heach i (by omega)
      obtain ⟨_, hlen, hcell⟩ := World.cells?_some hc
      obtain ⟨r, hr, hN⟩ := im_in hlen ht' (hzi i hi)
      refine ⟨r, fun j v hv => ?_, hN⟩
      have hj : j < 2 := by have := (List.getElem?_eq_some_iff.1 hv).1; simpa [imC] using this
      have z := hcell j (by omega)
      rw [add_add] at z
      rw [z, hr]
      exact hv
    have inh : Inhabited Im := ⟨⟨0, none, 0, []⟩⟩
    obtain ⟨f, hf⟩ := choose_lt (α := Im) each
    have hget : ∀ i s, ((List.range len).map f)[i]? = some s → i < len ∧ s = f i := by
      intro i s hs
      have hi : i < len := by have := (List.getElem?_eq_some_iff.1 hs).1; simpa using this
      refine ⟨hi, ?_⟩
      simp [hi] at hs
      exact hs.symm
    refine ⟨(List.range len).map f, by simp, ⟨by simpa using hl, by unfold maxLen at hm; omega, ?_, ?_⟩⟩
    · by_cases h0 : len = 0
      · exact .inl (by simp [h0])
      · obtain ⟨b, off, spot⟩ := x
        have hc := (hf 0 (by omega)).1 0 _ rfl
        have hspot : spot = none := by simpa [Addr.add] using World.cell?_spot hc
        subst hspot
        refine .inr ⟨b, off, rfl, World.block_lt_of_cell? w ⟨b, off + (0 * 2 + 0), none⟩ (by rw [Addr.add_lit] at hc; exact hc), fun i s hs => ?_⟩
        obtain ⟨hi, rfl⟩ := hget i s hs
        intro j v hv
        have := (hf i (by omega)).1 j v hv
        rw [Addr.add_lit, ← Nat.add_assoc] at this
        exact this
    · intro s hs
      obtain ⟨i, hi, rfl⟩ := List.mem_map.1 hs
      exact (hf i (List.mem_range.1 hi)).2
end
end Go.Proofs.YtkibbojiflklpaaGreat

/- Equal pages. -/
namespace Go.Proofs.YtkibbojiflklpaaGreat
open Go.RowKit

set_option maxRecDepth 100000 in
set_option maxHeartbeats 4000000 in
theorem rsame_any (a a2 : Option Addr) (n n2 c c2 : Nat) (ls l2 : List Sl) (hn : n = ls.length) (hn2 : n2 = l2.length) (hp : psOf ls = psOf l2) (w : World) (h : Slots w a c ls) (h2 : Slots w a2 c2 l2) :
    Calls Tryz.prog 8 #[.slice a n c, .slice a2 n2 c2] w fun e w' => e = .returned (.bool true) ∧ Fr (fun _ => False) w w' := by
  obtain rfl : n2 = n := by have := congrArg List.length hp; rw [ps_length, ps_length] at this; omega
  have hle : n2 ≤ c := by rw [hn]; exact h.le
  have hmx := h.max
  have hle2 : n2 ≤ c2 := by rw [hn2]; exact h2.le
  have hmx2 := h2.max
  have HS : Hid (∀ W, Fr (fun _ => False) w W → Slots W a c ls) := fun W f => h.same f
  have HS2 : Hid (∀ W, Fr (fun _ => False) w W → Slots W a2 c2 l2) := fun W f => h2.same f
  have HN : Hid (n2 = ls.length) := hn
  have HN2 : Hid (n2 = l2.length) := hn2
  have HP : Hid (psOf ls = psOf l2) := hp
  clear h h2 hn hn2 hp
  go_enter Tryz.func8, Tryz.ntmps8
  go_wp2
  go_loopw [13] (fun i wr => ∃ (k : Nat), k ≤ n2 ∧ i = .int .i64 k ∧ Fr (fun _ => False) w wr) (fun i _ => n2 - (intOf i).toNat)
  case atStart => exact ⟨0, by omega, rfl, Fr.refl _ _⟩
  case round =>
    obtain ⟨k, hk, rfl, F⟩ := hrel
    by_cases hlt : k < n2
    · obtain ⟨s, hs⟩ : ∃ s, ls[k]? = some s := ⟨_, List.getElem?_eq_getElem (by have := HN.out; omega)⟩
      obtain ⟨t, ht⟩ : ∃ t, l2[k]? = some t := ⟨_, List.getElem?_eq_getElem (by have := HN2.out; omega)⟩
      have hst : s.page = t.page ∧ s.nd = t.nd := by
        have := congrArg (fun l => l[k]?) HP.out
        simp only [psOf, List.getElem?_map, hs, ht, Option.map_some, Option.some.injEq, Prod.mk.injEq] at this
        exact this
      obtain ⟨b1, o1, rfl, hb1, hc1⟩ := (HS.out _ F).some (by have := HN.out; omega)
      obtain ⟨b2, o2, rfl, hb2, hc2⟩ := (HS2.out _ F).some (by have := HN2.out; omega)
      obtain ⟨p0, p1, p2, p3, p4, p5, p6, p7⟩ := sl_range (hc1 k s hs)
      obtain ⟨q0, q1, q2, q3, q4, q5, q6, q7⟩ := sl_range (hc2 k t ht)
      have nd1 := (HS.out _ F).nod s (List.mem_of_getElem? hs)
      have nd2 := (HS2.out _ F).nod t (List.mem_of_getElem? ht)
      rw [← hst.1] at q0
      rw [← hst.2] at q1 q2 q3 q4 q5 q6 q7 nd2
      have hpl := fun W (f : Fr (fun _ => False) wr W) => plain_same s.nd s.pt t.pt W (nd1.same f) (nd2.same f)
      have hki : (k : Int) < (n2 : Int) := by omega
      have HQ : Hid (∀ W, Fr (fun _ => False) wr W → (W.cell? ⟨b1, o1 + k * 8, none⟩ = some (.int .i64 s.page) ∧ W.cell? ⟨b1, o1 + k * 8 + 1, none⟩ = some (.int .i64 s.nd.lev) ∧ W.cell? ⟨b1, o1 + k * 8 + 2, none⟩ = some (.int .i64 s.nd.lsn) ∧ W.cell? ⟨b1, o1 + k * 8 + 3, none⟩ = some (.int .i64 s.nd.rgt) ∧ W.cell? ⟨b1, o1 + k * 8 + 4, none⟩ = some (.string s.nd.high) ∧ W.cell? ⟨b1, o1 + k * 8 + 5, none⟩ = some (.slice s.pt.k s.nd.keys.length s.pt.kc) ∧ W.cell? ⟨b1, o1 + k * 8 + 6, none⟩ = some (.slice s.pt.v s.nd.vals.length s.pt.vc) ∧ W.cell? ⟨b1, o1 + k * 8 + 7, none⟩ = some (.slice s.pt.i s.nd.kids.length s.pt.ic)) ∧ (W.cell? ⟨b2, o2 + k * 8, none⟩ = some (.int .i64 s.page) ∧ W.cell? ⟨b2, o2 + k * 8 + 1, none⟩ = some (.int .i64 s.nd.lev) ∧ W.cell? ⟨b2, o2 + k * 8 + 2, none⟩ = some (.int .i64 s.nd.lsn) ∧ W.cell? ⟨b2, o2 + k * 8 + 3, none⟩ = some (.int .i64 s.nd.rgt) ∧ W.cell? ⟨b2, o2 + k * 8 + 4, none⟩ = some (.string s.nd.high) ∧ W.cell? ⟨b2, o2 + k * 8 + 5, none⟩ = some (.slice t.pt.k s.nd.keys.length t.pt.kc) ∧ W.cell? ⟨b2, o2 + k * 8 + 6, none⟩ = some (.slice t.pt.v s.nd.vals.length t.pt.vc) ∧ W.cell? ⟨b2, o2 + k * 8 + 7, none⟩ = some (.slice t.pt.i s.nd.kids.length t.pt.ic))) := fun W f => by
        refine ⟨?_, ?_⟩
        · exact sl_range (range_fr (hc1 k s hs) f (fun f => f))
        · have := sl_range (range_fr (hc2 k t ht) f (fun f => f))
          rw [← hst.1, ← hst.2] at this
          exact this
      have g0 := (Fr.refl (fun _ => False) wr).drew
      clear hs ht hst hc1 hc2 nd1 nd2 p0 p1 p2 p3 p4 p5 p6 p7 q0 q1 q2 q3 q4 q5 q6 q7
      go_wp2_with fail
      go_region_held3 (fun W => (W.cell? ⟨b1, o1 + k * 8, none⟩ = some (.int .i64 s.page) ∧ W.cell? ⟨b1, o1 + k * 8 + 1, none⟩ = some (.int .i64 s.nd.lev) ∧ W.cell? ⟨b1, o1 + k * 8 + 2, none⟩ = some (.int .i64 s.nd.lsn) ∧ W.cell? ⟨b1, o1 + k * 8 + 3, none⟩ = some (.int .i64 s.nd.rgt) ∧ W.cell? ⟨b1, o1 + k * 8 + 4, none⟩ = some (.string s.nd.high) ∧ W.cell? ⟨b1, o1 + k * 8 + 5, none⟩ = some (.slice s.pt.k s.nd.keys.length s.pt.kc) ∧ W.cell? ⟨b1, o1 + k * 8 + 6, none⟩ = some (.slice s.pt.v s.nd.vals.length s.pt.vc) ∧ W.cell? ⟨b1, o1 + k * 8 + 7, none⟩ = some (.slice s.pt.i s.nd.kids.length s.pt.ic)) ∧ (W.cell? ⟨b2, o2 + k * 8, none⟩ = some (.int .i64 s.page) ∧ W.cell? ⟨b2, o2 + k * 8 + 1, none⟩ = some (.int .i64 s.nd.lev) ∧ W.cell? ⟨b2, o2 + k * 8 + 2, none⟩ = some (.int .i64 s.nd.lsn) ∧ W.cell? ⟨b2, o2 + k * 8 + 3, none⟩ = some (.int .i64 s.nd.rgt) ∧ W.cell? ⟨b2, o2 + k * 8 + 4, none⟩ = some (.string s.nd.high) ∧ W.cell? ⟨b2, o2 + k * 8 + 5, none⟩ = some (.slice t.pt.k s.nd.keys.length t.pt.kc) ∧ W.cell? ⟨b2, o2 + k * 8 + 6, none⟩ = some (.slice t.pt.v s.nd.vals.length t.pt.vc) ∧ W.cell? ⟨b2, o2 + k * 8 + 7, none⟩ = some (.slice t.pt.i s.nd.kids.length t.pt.ic)))
        (first | with_reducible exact HQ.out _ g0 | with_reducible exact HQ.out _ g1)
        (first | (go_at_call 36; refine (hpl _ g0).mono ?_; rintro e w1 ⟨rfl, m1⟩; have g1 := g0.seq' m1))
      go_wp2
      go_roundw
      case rel => exact ⟨k + 1, by omega, by go_num, F.seq' g1⟩
      case measure => simp [intOf]; omega
    · obtain rfl : k = n2 := by omega
      go_wp2
      go_ret
      exact ⟨rfl, F⟩
end Go.Proofs.YtkibbojiflklpaaGreat

/- Images and pages that grow side by side. -/
namespace Go.Proofs.YtkibbojiflklpaaGreat
open Go.RowKit

theorem imC_length (i : Im) : (imC i).length = 2 := rfl
theorem Row.frS {S : Nat → Prop} {w w' : World} {a : Option Addr} {cap : Nat} {l : List Nat} (h : Row w a cap l) (f : Fr S w w') (hn : l = [] ∨ ∀ b o, a = some ⟨b, o, none⟩ → ¬ S b) : Row w' a cap l := by
  refine ⟨h.le, h.max, h.small, h.byte, ?_⟩
  rcases hn with h0 | hn
  · exact .inl h0
  rcases h.at_ with h0 | ⟨b, off, ha, hb, hc⟩
  · exact .inl h0
  · refine .inr ⟨b, off, ha, Nat.lt_of_lt_of_le hb f.size, fun i hi => ?_⟩
    rw [f.cell (p := ⟨b, off + i, none⟩) hb (hn b off ha)]
    exact hc i hi
structure Ag (w1 wr : World) (vA : Value) (im : List Im) (vW : Value) (lw : List Sl) : Prop where
  ha : Has wr 2 vA im.length (im.flatMap imC)
  hw : Has wr 8 vW lw.length (lw.flatMap slC)
  an : ∀ g, vA.ownBlock = some g → w1.heap.size ≤ g
  wn : ∀ g, vW.ownBlock = some g → w1.heap.size ≤ g
  ne : ∀ g, vA.ownBlock = some g → vW.ownBlock ≠ some g
  rows : ∀ i ∈ im, Row wr i.a i.c i.bs
  roff : ∀ i ∈ im, i.bs = [] ∨ ∀ b o, i.a = some ⟨b, o, none⟩ → vA.ownBlock ≠ some b ∧ vW.ownBlock ≠ some b
theorem Ag.nil (w1 : World) : Ag w1 w1 (.slice none 0 0) [] (.slice none 0 0) [] := ⟨Has.nil _ _, Has.nil _ _, (fun g e => by cases e), (fun g e => by cases e), (fun g e => by cases e), (fun i hi => by cases hi), (fun i hi => by cases hi)⟩
theorem Ag.same {w1 wr W : World} {vA vW : Value} {im : List Im} {lw : List Sl} (h : Ag w1 wr vA im vW lw) (f : Fr (fun _ => False) wr W) : Ag w1 W vA im vW lw :=
  ⟨h.ha.fr f (fun _ _ e => e), h.hw.fr f (fun _ _ e => e), h.an, h.wn, h.ne, fun i hi => (h.rows i hi).same f, h.roff⟩
theorem row_lt {w : World} {a : Option Addr} {cap : Nat} {l : List Nat} (h : Row w a cap l) : l = [] ∨ ∀ b o, a = some ⟨b, o, none⟩ → b < w.heap.size := by
  rcases h.at_ with h0 | ⟨b, off, ha, hb, _⟩
  · exact .inl h0
  · exact .inr (fun b' o e => by rw [ha] at e; cases e; exact hb)
/-- One image more. -/
theorem Ag.img {w1 wr W2 w8 : World} {vA vA' vW : Value} {im : List Im} {lw : List Sl} (h : Ag w1 wr vA im vW lw) (h1 : w1.heap.size ≤ wr.heap.size) (f : Fr (fun _ => False) wr W2) (i : Im) (hr : Row W2 i.a i.c i.bs) (hnew : ∀ b o, i.a = some ⟨b, o, none⟩ → wr.heap.size ≤ b)
    (ht : Has w8 2 vA' (im.length + 1) (im.flatMap imC ++ imC i)) (fr : Fr (fun k => vA.ownBlock = some k) W2 w8) (hat : vA'.ownBlock = vA.ownBlock ∨ ∃ g, vA'.ownBlock = some g ∧ W2.heap.size ≤ g) : Ag w1 w8 vA' (im ++ [i]) vW lw := by
  have h2 := h.same f
  have hz := f.size
  have ltA : ∀ g, vA.ownBlock = some g → g < wr.heap.size := fun g e => h.ha.lt e
  have ltW : ∀ g, vW.ownBlock = some g → g < wr.heap.size := fun g e => h.hw.lt e
  have hA : ∀ g, vA'.ownBlock = some g → vA.ownBlock = some g ∨ W2.heap.size ≤ g := fun g e => by
    rcases hat with h3 | ⟨g', h3, h4⟩
    · exact .inl (by rw [← h3]; exact e)
    · rw [h3] at e; cases e; exact .inr h4
  refine ⟨by rw [List.length_append, List.flatMap_append]; simpa using ht, h2.hw.fr fr (fun g hg e => h.ne g e hg), fun g e => ?_, h.wn, fun g e hw => ?_, fun j hj => ?_, fun j hj => ?_⟩
  · rcases hA g e with e | e
    · exact h.an g e
    · omega
  · rcases hA g e with e | e
    · exact h.ne g e hw
    · have := ltW g hw; omega
  · rcases List.mem_append.1 hj with hj | hj
    · refine (h2.rows j hj).frS fr ?_
      rcases h.roff j hj with e | e
      · exact .inl e
      · exact .inr (fun b o e2 => (e b o e2).1)
    · rw [List.mem_singleton] at hj
      subst hj
      exact hr.frS fr (.inr (fun b o e e2 => by have := hnew b o e; have := ltA b e2; omega))
  · rcases List.mem_append.1 hj with hj | hj
    · rcases h.roff j hj with e | e
      · exact .inl e
      · rcases row_lt (h.rows j hj) with e0 | e0
        · exact .inl e0
        · refine .inr (fun b o e2 => ⟨fun e3 => ?_, (e b o e2).2⟩)
          rcases hA b e3 with e4 | e4
          · exact (e b o e2).1 e4
          · have := e0 b o e2; omega
    · rw [List.mem_singleton] at hj
      subst hj
      rcases row_lt hr with e0 | e0
      · exact .inl e0
      · refine .inr (fun b o e2 => ⟨fun e3 => ?_, fun e3 => ?_⟩)
        · rcases hA b e3 with e4 | e4
          · have := ltA b e4; have := hnew b o e2; omega
          · have := e0 b o e2; omega
        · have := ltW b e3; have := hnew b o e2; omega
/-- One page more. -/
theorem Ag.pg {w1 wr W2 w8 : World} {vA vW vW' : Value} {im : List Im} {lw : List Sl} (h : Ag w1 wr vA im vW lw) (h1 : w1.heap.size ≤ wr.heap.size) (f : Fr (fun _ => False) wr W2) (s : Sl)
    (ht : Has w8 8 vW' (lw.length + 1) (lw.flatMap slC ++ slC s)) (fr : Fr (fun k => vW.ownBlock = some k) W2 w8) (hat : vW'.ownBlock = vW.ownBlock ∨ ∃ g, vW'.ownBlock = some g ∧ W2.heap.size ≤ g) : Ag w1 w8 vA im vW' (lw ++ [s]) := by
  have h2 := h.same f
  have hz := f.size
  have ltA : ∀ g, vA.ownBlock = some g → g < wr.heap.size := fun g e => h.ha.lt e
  have hW : ∀ g, vW'.ownBlock = some g → vW.ownBlock = some g ∨ W2.heap.size ≤ g := fun g e => by
    rcases hat with h3 | ⟨g', h3, h4⟩
    · exact .inl (by rw [← h3]; exact e)
    · rw [h3] at e; cases e; exact .inr h4
  refine ⟨h2.ha.fr fr (fun g hg e => h.ne g hg e), by rw [List.length_append, List.flatMap_append]; simpa using ht, h.an, fun g e => ?_, fun g e hw => ?_, fun j hj => ?_, fun j hj => ?_⟩
  · rcases hW g e with e | e
    · exact h.wn g e
    · omega
  · rcases hW g hw with e2 | e2
    · exact h.ne g e e2
    · have := ltA g e; omega
  · refine (h2.rows j hj).frS fr ?_
    rcases h.roff j hj with e | e
    · exact .inl e
    · exact .inr (fun b o e2 => (e b o e2).2)
  · rcases h.roff j hj with e | e
    · exact .inl e
    · rcases row_lt (h.rows j hj) with e0 | e0
      · exact .inl e0
      · refine .inr (fun b o e2 => ⟨(e b o e2).1, fun e3 => ?_⟩)
        rcases hW b e3 with e4 | e4
        · exact (e b o e2).2 e4
        · have := e0 b o e2; omega
theorem Ag.ims {w1 wr : World} {a : Option Addr} {n c : Nat} {vW : Value} {im : List Im} {lw : List Sl} (hn : n = im.length) (h : Ag w1 wr (.slice a n c) im vW lw) : Ims wr a c im := by
  subst hn
  obtain ⟨a', c', he, h1, h2⟩ := h.ha.slice
  simp only [Value.slice.injEq, true_and] at he
  obtain ⟨rfl, rfl⟩ := he
  refine ⟨h1, by unfold maxLen at h2; exact h2, ?_, h.rows⟩
  by_cases h0 : im.length = 0
  · exact .inl (List.length_eq_zero_iff.1 h0)
  · obtain ⟨g, cap, hv, hg, _⟩ := h.ha.form (by omega)
    simp only [Value.slice.injEq, true_and] at hv
    obtain ⟨rfl, rfl⟩ := hv
    refine .inr ⟨g, 0, rfl, hg, fun i m hm => ?_⟩
    rw [Nat.zero_add]
    exact h.ha.elem imC_length hm
end Go.Proofs.YtkibbojiflklpaaGreat
