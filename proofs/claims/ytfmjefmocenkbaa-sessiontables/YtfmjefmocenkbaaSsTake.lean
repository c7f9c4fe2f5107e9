
/- Requests that are taken out of a table. -/
import Derived.Test.YtfmjefmocenkbaaSsSort
import Derived.Laws.IdiomRangeMap
namespace Go.Proofs.Ytfmjefmocenkbaa
open Go.Shelf Go.RowKit Go.Sort

/-- Keys that were seen in a range, and that are asked for. -/
def Seen (L : Wt) (c : Int) (left : Lit → Bool) (ss : List Int) : Prop := ss.Nodup ∧ ∀ x, x ∈ ss ↔ ∃ l, lk L x = some l ∧ l ≤ c ∧ left (.int .i64 x) = false
theorem strike_iff {left : Lit → Bool} {x y : Int} : (left (.int .i64 y) && !(Lit.int .i64 y).sameKey (.int .i64 x)) = false ↔ y = x ∨ left (.int .i64 y) = false := by
  by_cases e : y = x
  · subst e; simp [Lit.sameKey]
  · rw [Maps.sameKey_ne (int_lit_ne e)]; simp [e]
theorem seen_start {D : DataW Value} {L : Wt} (hl : Like D (wMap L)) (c : Int) : Seen L c (Maps.has D) [] := by
  refine ⟨List.nodup_nil, fun x => ⟨(fun h => by cases h), ?_⟩⟩
  rintro ⟨l, h1, _, h3⟩
  have hm : wMap L x = some (zI l) := by simp [wMap, h1]
  rw [hl.has x (hl.key x _ hm), hm] at h3
  cases h3
theorem seen_skip {L : Wt} {c : Int} {left : Lit → Bool} {ss : List Int} {x l : Int} (h : Seen L c left ss) (hx : lk L x = some l) (hc : ¬ l ≤ c) : Seen L c (fun z => left z && !z.sameKey (.int .i64 x)) ss := by
  refine ⟨h.1, fun y => (h.2 y).trans ⟨?_, ?_⟩⟩
  · rintro ⟨k, h1, h2, h3⟩; exact ⟨k, h1, h2, strike_iff.2 (.inr h3)⟩
  · rintro ⟨k, h1, h2, h3⟩
    rcases strike_iff.1 h3 with e | e
    · subst e; rw [hx] at h1; cases h1; exact absurd h2 hc
    · exact ⟨k, h1, h2, e⟩
theorem seen_add {L : Wt} {c : Int} {left : Lit → Bool} {ss : List Int} {x l : Int} (h : Seen L c left ss) (hx : lk L x = some l) (hc : l ≤ c) (hleft : left (.int .i64 x) = true) : Seen L c (fun z => left z && !z.sameKey (.int .i64 x)) (ss ++ [x]) := by
  have hn : x ∉ ss := fun hm => by obtain ⟨_, _, _, h3⟩ := (h.2 x).1 hm; rw [hleft] at h3; cases h3
  refine ⟨List.nodup_append.2 ⟨h.1, by simp, fun a ha b hb => by simp at hb; subst hb; intro e; subst e; exact hn ha⟩, fun y => ?_⟩
  rw [List.mem_append, h.2 y]
  constructor
  · rintro (⟨k, h1, h2, h3⟩ | hy)
    · exact ⟨k, h1, h2, strike_iff.2 (.inr h3)⟩
    · simp at hy; subst hy; exact ⟨l, hx, hc, strike_iff.2 (.inl rfl)⟩
  · rintro ⟨k, h1, h2, h3⟩
    rcases strike_iff.1 h3 with e | e
    · right; simp [e]
    · exact .inl ⟨k, h1, h2, e⟩
theorem seen_end {L : Wt} (hL : Ok L) {c : Int} {left : Lit → Bool} {ss : List Int} (h : Seen L c left ss) (hl : ∀ kl, left kl = false) : ss.Perm (tkR c L) :=
  keys_perm hL c h.1 fun x => (h.2 x).trans ⟨fun ⟨l, h1, h2, _⟩ => ⟨l, h1, h2⟩, fun ⟨l, h1, h2⟩ => ⟨l, h1, h2, hl _⟩⟩
theorem nodup_len : ∀ {a b : List Int}, a.Nodup → (∀ x ∈ a, x ∈ b) → a.length ≤ b.length
  | [], _, _, _ => Nat.zero_le _
  | x :: a, b, nd, hs => by
    rw [List.nodup_cons] at nd
    have hx := hs x (List.mem_cons_self ..)
    have h1 := nodup_len (a := a) (b := b.erase x) nd.2 (fun y hy => (List.mem_erase_of_ne (fun e => nd.1 (by rw [← e]; exact hy))).2 (hs y (List.mem_cons_of_mem _ hy)))
    have h2 := List.length_erase_of_mem hx
    have h3 := List.length_pos_of_mem hx
    simp only [List.length_cons]
    omega
theorem seen_len {L : Wt} {c : Int} {left : Lit → Bool} {ss : List Int} (h : Seen L c left ss) : ss.length ≤ L.length := by
  have := nodup_len (b := L.map Prod.fst) h.1 (fun x hx => by obtain ⟨l, h1, _⟩ := (h.2 x).1 hx; exact List.mem_map.2 ⟨_, lk_mem h1, rfl⟩)
  simpa using this
theorem ranges_fr {S : Nat → Prop} {w w' : World} {b r n cnt : Nat} {D : DataW Value} {left : Lit → Bool} (h : w.ranges Try.prog 3 vR b r n D left cnt) (f : Fr S w w') (hb : ¬ S b) (hr : ¬ S r) : w'.ranges Try.prog 3 vR b r n D left cnt := by
  have l1 := h.lt
  have l2 := h.owns.lt
  obtain ⟨es, clock, since, seen, c0, h1, h2, h3, h4, h5, h6⟩ := h
  exact ⟨es, clock, since, seen, c0, (f.block b l2 hb).trans h1, h2, h3, h4, (f.block r l1 hr).trans h5, h6⟩
theorem wMap_inv {L : Wt} {x : Int} {v : Value} (h : wMap L x = some v) : ∃ l, lk L x = some l ∧ v = .int .i64 l := by
  unfold wMap at h
  cases hl : lk L x with
  | none => rw [hl] at h; cases h
  | some l => rw [hl] at h; simp only [Option.map_some, Option.some.injEq] at h; exact ⟨l, rfl, h.symm⟩
/-- A map without some of its keys. -/
def mWo (L : Wt) (ts : List Int) : Vmap := fun x => if x ∈ ts then none else wMap L x
theorem mWo_nil (L : Wt) : mWo L [] = wMap L := by funext x; simp [mWo]
theorem mWo_snoc (L : Wt) (ts : List Int) (x : Int) : vupd (mWo L ts) x none = mWo L (ts ++ [x]) := by
  funext y
  unfold vupd mWo
  by_cases e : y = x
  · simp [e]
  · simp [e]
theorem mWo_all {L : Wt} (h : Ok L) (c : Int) : mWo L (tkR c L) = wMap (rsL c L) := by
  funext x
  unfold mWo wMap
  rw [lk_rs h c x]
  split <;> rfl
theorem take_nil (c : Int) (w : World) : Calls Try.prog 27 #[.pointer none, .int .i64 c] w fun e w' => e = .returned (.slice none 0 0) ∧ Fr (fun _ => False) w w' := by
  have T : (w.alloc (.cells #[.pointer none] 23)).cell? ⟨w.heap.size, 0, none⟩ = some (.pointer none) := one_cell_n (heap_alloc_new w _)
  have HF : Hid (Fr (fun _ => False) w (w.alloc (.cells #[.pointer none] 23))) := Fr.box _ _
  go_enter Try.func27, Try.ntmps27
  go_wp2
  go_ret
  exact ⟨rfl, HF.out⟩
theorem row_base {w : World} {b b' : Nat} {e : TypeId} {v : Value} {n : Nat} {xs : List Value} (hb : b ≤ b') (h : w.ownsRow b' e 1 v n xs) : w.ownsRow b e 1 v n xs := by
  obtain ⟨h1, h2 | ⟨g, cap, cur, hv, hg, r⟩⟩ := h
  · exact ⟨h1, .inl h2⟩
  · exact ⟨h1, .inr ⟨g, cap, cur, hv, Nat.le_trans hb hg, r⟩⟩
theorem sort_take {w : World} {b m n Bm B0 : Nat} {L : Wt} {c : Int} {dv v : Value} {ss : List Int} (hL : Ok L) (h : Mp w m n (wMap L)) (ht : Two w b 61 (.map (some m)) dv) (hc : w.cell? ⟨Bm, 0, none⟩ = some (.pointer (some ⟨b, 0, none⟩))) (hrow : w.ownsRow B0 3 1 v ss.length (ss.map zI))
    (hp : ss.Perm (tkR c L)) (hlen : L.length ≤ 1024) (hm : m < B0) (hb : b < B0) (hB : Bm < B0) (hBl : B0 ≤ w.heap.size) :
    Calls Try.prog 29 #[v, .func (.func 30) #[] #[.pointer (some ⟨Bm, 0, none⟩)]] w fun e w' =>
      e = .returned (.tuple #[]) ∧ w'.ownsRow B0 3 1 v (tkR c L).length ((tkR c L).map zI) ∧ Fr (fun k => B0 ≤ k) w w' := by
  have hl2 : ss.length ≤ 1024 := by have := hp.length_eq; have := tk_len c L; omega
  rcases hrow.2 with ⟨rfl, hz⟩ | ⟨gb, cap, cur, rfl, hbase, hgb, r1, r2, r3, r4⟩
  · have hss : ss = [] := List.eq_nil_of_length_eq_zero hz
    subst hss
    have ht0 : tkR c L = [] := List.nil_perm.1 hp
    refine (sort_n w _).mono ?_
    rintro e w2 ⟨rfl, f2⟩
    rw [ht0]
    exact ⟨rfl, ⟨rfl, .inl ⟨rfl, rfl⟩⟩, f2.mono (fun _ _ f => f.elim)⟩
  · have hwf : ∀ x ∈ ss, wfK x := fun x hx => by
      obtain ⟨l, h1, _⟩ := mem_tkR.1 (hp.mem_iff.1 hx)
      exact rng_wf (hL.rg _ h1).1
    have r4' : cur.toList.take ss.length = ss.map encZ := by
      have : ss.map zI = ss.map encZ := rfl
      rw [← this]
      simpa using r4
    refine (sort_w (cap := cap) h ht hc (by omega) (by omega) (by omega) (by omega) hwf hgb r4' (by omega)).mono ?_
    rintro e w2 ⟨rfl, ts, k, os, hpt, hs, rfl⟩
    have hts : ts = tkR c L := sort_uniq (f := fun x => (x, atL L x)) (fun _ => rfl) (hpt.trans hp) hs (tk_sorted hL c)
    have hown := ownsRow_sorted_i (n := k) (os := os) (ts := ts) (ss := ss) hpt.length_eq hbase hgb r1 r2 r3
    have f2 : Fr (fun k => k = gb) w (grow (putRow encZ (Sort.ahead w k) gb 0 ts.toArray) os) := (Fr.refl _ w).grown (grownBy_sorted_i ts.toArray) (fun k e _ => by simp only [Option.some.injEq] at e; exact e.symm)
    refine ⟨rfl, ?_, f2.mono (fun i _ e => by omega)⟩
    rw [← hts]
    rw [← hpt.length_eq] at hown
    rw [hpt.length_eq] at hown ⊢
    exact hown
/-- A table's maps. -/
def Mps (w : World) (S : Nat → Prop) (b : Nat) (L : Wt) (D : List Int) : Prop := ∃ m d nd, S m ∧ S d ∧ b ≠ m ∧ b ≠ d ∧ m ≠ d ∧ Two w b 61 (.map (some m)) (.map (some d)) ∧ Mp w m L.length (wMap L) ∧ Mp w d nd (dMap D) ∧ nd ≤ D.length
/-- What take tells and leaves. -/
def TkO (w : World) (S : Nat → Prop) (b : Nat) (L : Wt) (D : List Int) (c : Int) (v : Value) (w' : World) : Prop :=
  w'.ownsRow w.heap.size 3 1 v (tkR c L).length ((tkR c L).map zI) ∧ Tb w' S b (rsL c L) D ∧ (tkR c L = [] ∨ Mps w' S b (rsL c L) D) ∧ Fr S w w'
set_option maxRecDepth 100000 in
set_option maxHeartbeats 4000000 in
theorem take_any {S : Nat → Prop} {b : Nat} {L : Wt} {D : List Int} (c : Int) (w : World) (h : Tb w S b L D) (hL : L.length ≤ 1024) : Calls Try.prog 27 #[.pointer (some ⟨b, 0, none⟩), .int .i64 c] w fun e w' => ∃ v, e = .returned v ∧ TkO w S b L D c v w' := by
  have F0 := Fr.box w (.cells #[.pointer (some ⟨b, 0, none⟩)] 23)
  have T : (w.alloc (.cells #[.pointer (some ⟨b, 0, none⟩)] 23)).cell? ⟨w.heap.size, 0, none⟩ = some (.pointer (some ⟨b, 0, none⟩)) := one_cell_n (heap_alloc_new w _)
  have HT1 : Hid (Tb (w.alloc (.cells #[.pointer (some ⟨b, 0, none⟩)] 23)) S b L D) := h.same F0
  have hsz : (w.alloc (.cells #[.pointer (some ⟨b, 0, none⟩)] 23)).heap.size = w.heap.size + 1 := by simp
  have hbl := h.lt b h.own
  rcases HT1.out.at_ with ⟨k1, h0, hD⟩ | ⟨m, d, nd, sm, sd, n1, n2, n3, k1, k2, k3, k4⟩
  · obtain ⟨x0, x1, _⟩ := k1.cells
    subst h0
    have hrg := run_range_nilMap (P := Try.prog) (w.alloc (.cells #[.pointer (some ⟨b, 0, none⟩)] 23)) 58 3 3 Try.underlying58
    have hnx : ∀ ty, (Instr.next (.pointer (some ⟨(w.alloc (.cells #[.pointer (some ⟨b, 0, none⟩)] 23)).heap.size, 0, none⟩)) false ty).run Try.prog ((w.alloc (.cells #[.pointer (some ⟨b, 0, none⟩)] 23)).alloc (.mapIter none 0 #[] 0)) = _ := fun ty => run_next_nilMap _ ty 0 0 #[]
    have HF : Hid (Fr (fun _ => False) w ((w.alloc (.cells #[.pointer (some ⟨b, 0, none⟩)] 23)).alloc (.mapIter none 0 #[] 0))) := F0.seq' (Fr.box _ _)
    have HK : Hid (∀ W, Fr (fun _ => False) w W → TkO w S b [] D c (.slice none 0 0) W) := fun W f => ⟨⟨rfl, .inl ⟨rfl, rfl⟩⟩, h.same f, .inl rfl, f.mono (fun _ _ f => f.elim)⟩
    clear k1 F0 h
    rw [hsz] at hrg hnx
    clear hsz
    go_enter Try.func27, Try.ntmps27
    go_wp2
    refine wp_loop_rounds 1 ?_
    rw [rounds_succ]
    go_wp2_with fail
    refine (sort_n _ _).mono ?_
    rintro e w2 ⟨rfl, f2⟩
    go_wp2
    refine wp_loop_rounds 1 ?_
    rw [rounds_succ]
    go_wp2
    go_ret
    exact ⟨_, rfl, HK.out _ (HF.out.seq' f2)⟩
  · obtain ⟨x0, x1, _⟩ := k1.cells
    have HTW : Hid (Tb w S b L D) := h
    have HK3 : Hid (∀ W, Fr (fun i => i = m) (w.alloc (.cells #[.pointer (some ⟨b, 0, none⟩)] 23)) W → Mp W d nd (dMap D)) := fun W f => k3.fr f (fun e => n3 e.symm)
    have HKB : Hid (∀ W, Fr (fun i => i = m) (w.alloc (.cells #[.pointer (some ⟨b, 0, none⟩)] 23)) W → Two W b 61 (.map (some m)) (.map (some d))) := fun W f => k1.fr f n1
    have HK2 : Hid (∀ W, Fr (fun _ => False) (w.alloc (.cells #[.pointer (some ⟨b, 0, none⟩)] 23)) W → Mp W m L.length (wMap L)) := fun W f => k2.same f
    have HKX : Hid (∀ W, Fr (fun i => i = m) (w.alloc (.cells #[.pointer (some ⟨b, 0, none⟩)] 23)) W → W.cell? ⟨w.heap.size, 0, none⟩ = some (.pointer (some ⟨b, 0, none⟩))) := fun W f => (f.cell (p := ⟨w.heap.size, 0, none⟩) (by rw [hsz]; show w.heap.size < _; omega) (fun e => by have := HTW.out.lt m sm; have e' : w.heap.size = m := e; omega)).trans T
    have hml := HTW.out.lt m sm
    obtain ⟨D0, hown, hDs, hl⟩ := k2
    have HL : Hid (Like D0 (wMap L)) := hl
    have HSS : Hid (Seen L c (Maps.has D0) []) := seen_start hl c
    have HLL : Hid (L.length ≤ 1024) := hL
    have HN : Hid (b ≠ m ∧ b ≠ d ∧ m ≠ d ∧ S m ∧ S d ∧ nd ≤ D.length ∧ m < w.heap.size ∧ b < w.heap.size) := ⟨n1, n2, n3, sm, sd, k4, hml, hbl⟩
    obtain ⟨V, hV⟩ : ∃ V, V = w.alloc (.cells #[.pointer (some ⟨b, 0, none⟩)] 23) := ⟨_, rfl⟩
    rw [← hV] at F0 HT1 hsz HK3 HKB HK2 HKX
    have HVE : Hid (w.alloc (.cells #[.pointer (some ⟨b, 0, none⟩)] 23) = V) := hV.symm
    have HF0 : Hid (Fr (fun _ => False) w V) := F0
    have HSZ : Hid (V.heap.size = w.heap.size + 1) := hsz
    obtain ⟨B, hB⟩ : ∃ B, B = w.heap.size := ⟨_, rfl⟩
    have HB : Hid (B = w.heap.size) := hB
    clear k1 k3 h hV F0 hl hDs hL n1 n2 n3 sm sd k4 hml hbl hsz hB
    go_enter Try.func27, Try.ntmps27
    go_wp2_with (first
      | (at_range; refine wpList_range_own _ rfl _ 58 rfl 3 3 keyed3 Try.underlying58 vR m L.length D0 rfl hown ?_; intro w0 hrg0 hg0 hs0)
      | go_in)
    go_frame
    rw [HVE.out] at hg0 hs0
    have e1 : (w.alloc (.cells #[.pointer (some ⟨b, 0, none⟩)] 23)).heap.size = B + 1 := by rw [HVE.out, HSZ.out, HB.out]
    rw [e1] at hrg0 ⊢
    rw [show w.heap.size = B from HB.out.symm]
    have FV0 : Fr (fun _ => False) V w0 := (Fr.refl _ V).grown hg0 (fun k e _ => by cases e)
    have HFV : Hid (Fr (fun _ => False) V w0) := FV0
    have hw0 : B + 1 < w0.heap.size := hrg0.lt
    have HW0 : Hid (B + 2 ≤ w0.heap.size) := hw0
    clear T x0 x1 hown hg0 hs0 FV0 hw0 e1
    go_loopw [5] (fun v wr => ∃ (left : Lit → Bool) (cnt : Nat) (ss : List Int), wr.ranges Try.prog 3 vR m (B + 1) L.length D0 left cnt ∧ Hid (wr.ownsRow (B + 2) 3 1 v ss.length (ss.map zI)) ∧ Hid (Seen L c left ss) ∧ Hid (Fr (fun _ => False) V wr) ∧ Hid (B + 2 ≤ wr.heap.size)) (fun _ wr => wr.rangeLeft m (B + 1))
    case atStart => exact ⟨_, _, [], hrg0, ⟨rfl, .inl ⟨rfl, rfl⟩⟩, HSS, HFV, HW0⟩
    case round =>
      obtain ⟨left, cnt, ss, hrg, HO, HS, HF, HZ⟩ := hrel
      obtain ⟨p0, c0, rfl, _⟩ := Ir.of HO.out
      clear hrg0 HFV HW0 HSS
      go_wp2_with (first
        | (at_next; refine wpList_next_mp _ rfl _ rfl m (B + 1) L.length D0 (wMap L) left cnt HL.out rfl hrg ?_ ?_)
        | go_in)
      · intro hl0
        have hperm := seen_end HTW.out.ok HS.out hl0
        have hbB : b < B := by have := HN.out.2.2.2.2.2.2.2; have := HB.out; omega
        have hmB : m < B := by have := HN.out.2.2.2.2.2.2.1; have := HB.out; omega
        have FM : Fr (fun i => i = m) V wr := HF.out.mono (fun _ _ f => f.elim)
        have hx : wr.cell? ⟨B, 0, none⟩ = some (.pointer (some ⟨b, 0, none⟩)) := by rw [HB.out]; exact HKX.out wr FM
        have hsort := sort_take HTW.out.ok (HK2.out wr HF.out) (HKB.out wr FM) hx HO.out hperm HLL.out (by omega) (by omega) (by omega) HZ.out
        have HPL : Hid (ss.length = (tkR c L).length) := hperm.length_eq
        clear hperm hbB hmB FM hx hrg HO HS hl0
        go_wp2_with fail
        refine hsort.mono ?_
        rintro e w2 ⟨rfl, HO, f2⟩
        have HFV2 : Hid (Fr (fun _ => False) V w2) := HF.out.trans f2 (fun i hi e => by have := HSZ.out; have := HB.out; omega)
        have HZ2 : Hid (B + 2 ≤ w2.heap.size) := by have := f2.size; have := HZ.out; show _ ≤ _; omega
        have HROW : Hid (w2.ownsRow (B + 2) 3 1 (.slice p0 ss.length c0) (tkR c L).length ((tkR c L).map zI)) := HO
        have HND : Hid ((tkR c L).Nodup ∧ ∀ x ∈ tkR c L, ∃ l, lk L x = some l) := ⟨tk_nodup HTW.out.ok c, fun x hx => by obtain ⟨l, h1, _⟩ := mem_tkR.1 hx; exact ⟨l, lk_of HTW.out.ok.nd h1⟩⟩
        have HALL : Hid (mWo L (tkR c L) = wMap (rsL c L) ∧ (tkR c L).length + (rsL c L).length = L.length) := ⟨mWo_all HTW.out.ok c, tk_len c L⟩
        have HROK : Hid (Ok (rsL c L)) := rs_ok HTW.out.ok c
        have HMP : Hid (Mp w2 m (L.length - 0) (mWo L ((tkR c L).take 0))) := by rw [List.take_zero, mWo_nil]; exact HK2.out w2 HFV2.out
        obtain ⟨ts, hts⟩ : ∃ ts, ts = tkR c L := ⟨_, rfl⟩
        rw [← hts] at HROW HND HALL HMP HPL
        have HTS : Hid (tkR c L = ts) := hts.symm
        clear hsort HO f2 HF HZ hts
        go_wp2
        go_loopw [34] (fun i wr => ∃ k : Nat, k ≤ ss.length ∧ i = .int .i64 k ∧ Hid (Mp wr m (L.length - k) (mWo L (ts.take k))) ∧ Hid (Fr (fun i => i = m) w2 wr)) (fun i _ => ss.length - (intOf i).toNat)
        case atStart => exact ⟨0, by omega, rfl, HMP, Fr.refl _ _⟩
        case round =>
          rename World => W3
          obtain ⟨k, hk, rfl, HM3, HF3⟩ := hrel
          have HFM : Hid (Fr (fun i => i = m) V W3) := (HFV2.out.mono (fun _ _ f => f.elim)).trans HF3.out (fun _ _ e => e)
          by_cases hlt : k < ss.length
          · have hlt' : k < ts.length := by have := HPL.out; omega
            obtain ⟨a1, c1, e1, hir⟩ := Ir.of HROW.out
            obtain ⟨e1', e3', e2'⟩ : p0 = a1 ∧ ss.length = ts.length ∧ c0 = c1 := by simpa using e1
            have HO0 : Hid (ss.length ≤ c0 ∧ c0 ≤ 9223372036854775807) := by have := hir.le; have := hir.max; have := HPL.out; constructor <;> omega
            have hir3 := hir.fr HF3.out (fun i hi _ e => by have := HN.out.2.2.2.2.2.2.1; have := HB.out; omega)
            obtain ⟨b1, hb1, _, _, hcl⟩ := hir3.some (by omega)
            rw [← e1'] at hb1
            subst hb1
            obtain ⟨x, hx⟩ : ∃ x, ts[k]? = some x := ⟨_, List.getElem?_eq_getElem hlt'⟩
            have hcx := hcl k x hx
            have hxm : x ∈ ts := List.mem_of_getElem? hx
            obtain ⟨l, hxl⟩ := HND.out.2 x hxm
            have hwx : wfK x := rng_wf (HTW.out.ok.rg _ (lk_mem hxl)).1
            have htk : ts.take (k + 1) = ts.take k ++ [x] := by rw [List.take_add_one, hx]; rfl
            have hni : x ∉ ts.take k := fun hm => by
              have hnd := HND.out.1
              rw [← List.take_append_drop (k + 1) ts, htk] at hnd
              have := (List.nodup_append.1 hnd).1
              exact (List.nodup_append.1 this).2.2 x hm x (by simp) rfl
            obtain ⟨c1, hc1⟩ := (HKB.out W3 HFM.out).cells
            have hbx : W3.cell? ⟨B, 0, none⟩ = some (.pointer (some ⟨b, 0, none⟩)) := by rw [HB.out]; exact HKX.out W3 HFM.out
            clear hc1 hcl hir hir3 e1
            have hsome : (mWo L (ts.take k) x).isSome = true := by unfold mWo; rw [if_neg hni, wMap_some, hxl]; rfl
            obtain ⟨W4, hdel, hM4, f4⟩ := HM3.out.drop Try.underlying58 hwx 0
            have HM4 : Hid (Mp W4 m (L.length - (k + 1)) (mWo L (ts.take (k + 1)))) := by
              rw [hsome, if_pos rfl, mWo_snoc, ← htk, Nat.sub_sub] at hM4
              exact hM4
            have HF4 : Hid (Fr (fun i => i = m) w2 W4) := HF3.out.trans f4 (fun _ _ e => e)
            have i1 : (k : Int) < (ss.length : Int) := by omega
            have hcl := HO0.out.1
            have hcm := HO0.out.2
            clear hM4 f4 hsome htk hni hxl hwx hxm hx HM3 HF3 hlt' e1' e2' e3'
            go_wp2
            go_roundw
            case rel => exact ⟨k + 1, by omega, by go_num, HM4, HF4⟩
            case measure => simp [intOf]; omega
          · have hke : k = ss.length := by omega
            subst hke
            have HFIN : Hid (TkO w S b L D c (.slice p0 ss.length c0) W3) := by
              have hM := HM3.out
              have hta : ts.take ss.length = ts := List.take_of_length_le (by have := HPL.out; omega)
              rw [hta, HALL.out.1] at hM
              have hn : L.length - ss.length = (rsL c L).length := by have := HALL.out.2; have := HPL.out; omega
              rw [hn] at hM
              have hmB := HN.out.2.2.2.2.2.2.1
              have hmps : Mps W3 S b (rsL c L) D := ⟨m, d, nd, HN.out.2.2.2.1, HN.out.2.2.2.2.1, HN.out.1, HN.out.2.1, HN.out.2.2.1, HKB.out W3 HFM.out, hM, HK3.out W3 HFM.out, HN.out.2.2.2.2.2.1⟩
              refine ⟨?_, ⟨HTW.out.own, fun i hi => ?_, HROK.out, HTW.out.wf, .inr hmps⟩, .inr hmps, ?_⟩
              · rw [HTS.out]
                exact row_base (by have := HB.out; omega) (row_fr HROW.out HF3.out (fun i hi _ e => by have := HB.out; omega))
              · exact Nat.lt_of_lt_of_le (HTW.out.lt i hi) (Nat.le_trans HF0.out.size HFM.out.size)
              · exact (HF0.out.mono (fun _ _ f => f.elim)).trans HFM.out (fun i _ e => by subst e; exact HN.out.2.2.2.1)
            clear HM3 HF3
            go_wp2
            go_ret
            exact ⟨_, rfl, HFIN.out⟩
      · intro x v w1 cnt1 hx hwx hlk hrg1 hlt hfr hsz1 hen
        obtain ⟨l, hxl, rfl⟩ := wMap_inv hx
        have HM : Hid (m < B) := by have := HN.out.2.2.2.2.2.2.1; have := HB.out; show m < B; omega
        have HF1 : Hid (Fr (fun _ => False) V w1) := HF.out.trans hfr (fun i hi e => by have := HSZ.out; have := HB.out; omega)
        have O1 := row_fr HO.out hfr (fun i hi _ e => by omega)
        have HZ1 : Hid (B + 2 ≤ w1.heap.size) := by rw [hsz1]; exact HZ
        by_cases hc : l ≤ c
        · obtain ⟨a', c', w', hrun, hown, fa⟩ := app_one x O1 HZ1.out (by have := seen_len HS.out; have := HLL.out; omega)
          have hrg2 := ranges_fr hrg1 fa (by have := HM.out; omega) (by omega)
          have HRG : Hid (w'.ranges Try.prog 3 vR m (B + 1) L.length D0 (fun z => left z && !z.sameKey (.int .i64 x)) cnt1) := hrg2
          have HMEA : Hid (w'.rangeLeft m (B + 1) < wr.rangeLeft m (B + 1)) := by show _ < _; rw [hrg2.left_eq, hrg.left_eq]; exact hlt
          have HS2 : Hid (Seen L c (fun z => left z && !z.sameKey (.int .i64 x)) (ss ++ [x])) := seen_add HS.out hxl hc hlk
          have HF2 : Hid (Fr (fun _ => False) V w') := HF1.out.trans fa (fun i hi e => by have := HSZ.out; have := HB.out; omega)
          have HZ2 : Hid (B + 2 ≤ w'.heap.size) := by have := fa.size; have := HZ1.out; show _ ≤ _; omega
          have HOW : Hid (w'.ownsRow (B + 2) 3 1 (.slice a' (ss.length + 1) c') (ss ++ [x]).length ((ss ++ [x]).map zI)) := hown
          have hcd : decide (l ≤ c) = true := by simpa using hc
          clear hown fa O1 hrg1 hrg2 hx hxl hfr hsz1 HO HS HF HZ hc hlt hlk hwx
          go_wp2_with (at_builtin; refine append_step rfl _ _ 27 rfl rfl rfl hrun ?_)
          refine ⟨⟨_, cnt1, ss ++ [x], HRG.out, HOW, HS2, HF2, HZ2⟩, HMEA.out⟩
        · have HRG : Hid (w1.ranges Try.prog 3 vR m (B + 1) L.length D0 (fun z => left z && !z.sameKey (.int .i64 x)) cnt1) := hrg1
          have HMEA : Hid (w1.rangeLeft m (B + 1) < wr.rangeLeft m (B + 1)) := by show _ < _; rw [hrg1.left_eq, hrg.left_eq]; exact hlt
          have HS2 : Hid (Seen L c (fun z => left z && !z.sameKey (.int .i64 x)) ss) := seen_skip HS.out hxl hc
          have HO1 : Hid (w1.ownsRow (B + 2) 3 1 (.slice p0 ss.length c0) ss.length (ss.map zI)) := O1
          have hcd : decide (l ≤ c) = false := by simpa using hc
          clear O1 hrg1 hx hxl hfr hsz1 HO HS HF HZ hc hlt hlk hwx
          go_wp2
          go_roundw
          case rel => exact ⟨_, cnt1, ss, HRG.out, HO1, HS2, HF1, HZ1⟩
          case measure => exact HMEA.out
end Go.Proofs.Ytfmjefmocenkbaa
