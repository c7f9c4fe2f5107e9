
/- BkEnt, BkGet, BkGet2. -/
import Derived.Test.YtnckmajfmkkpgaaGreatBkLv
/- The entries of leaves, as the iterator entriesOf gives them. -/
namespace Go.Proofs.YtnckmajfmkkpgaaGreat
open Go.RowKit Go.Shelf
attribute [local go_sem] Oper.semAt_some

/-- The entries of a node, and of leaves. -/
def ndE (n : Nd) : List (ByteArray × ByteArray) := n.keys.zip n.vals
def lvE (sp : List Spt) : List (ByteArray × ByteArray) := sp.flatMap (fun s => ndE s.nd)
theorem lvE_next {sp : List Spt} {k : Nat} {s : Spt} (h : sp[k]? = some s) : lvE (sp.drop k) = ndE s.nd ++ lvE (sp.drop (k + 1)) := by
  have hj := (List.getElem?_eq_some_iff.1 h).1
  rw [List.drop_eq_getElem_cons hj, (List.getElem?_eq_some_iff.1 h).2]
  rfl
theorem ndE_next {n : Nd} {k : Nat} (hk : k < n.keys.length) (hv : k < n.vals.length) : (ndE n).drop k = (n.keys.getD k ByteArray.empty, n.vals.getD k ByteArray.empty) :: (ndE n).drop (k + 1) := by
  unfold ndE
  rw [List.drop_eq_getElem_cons (by simp; omega)]
  simp [List.getD_eq_getElem?_getD, hk, hv]
set_option maxRecDepth 100000 in
set_option maxHeartbeats 4000000 in
theorem ent_iter (a : Option Addr) (n c : Nat) (sp : List Spt) (hn : n = sp.length) (hkv : ∀ s ∈ sp, s.nd.keys.length ≤ s.nd.vals.length) (Bl : Nat) (R : Nat → Prop) (w : World)
    (hS : ∀ W, Fr (fun k => ¬ R k) w W → Spots W a c sp) (hcl : ∀ W, Fr (fun k => ¬ R k) w W → W.cell? ⟨Bl, 0, none⟩ = some (.slice a n c)) :
    Iter Tryz.prog 27 #[.pointer (some ⟨Bl, 0, none⟩)] (fun x : ByteArray × ByteArray => #[.agg #[.string x.1, .string x.2]]) R (fun pre x _ => pre ++ [x] <+: lvE sp) (fun xs => xs = lvE sp) w := by
  intro l T J Jx W hW hT hJx hY h0
  have hle : n ≤ c := by rw [hn]; exact (hS W hW).le
  have hmx := (hS W hW).max
  have HN : Hid (n = sp.length) := hn
  have HS : Hid (∀ W, Fr (fun k => ¬ R k) w W → Spots W a c sp) := hS
  have HKV : Hid (∀ s ∈ sp, s.nd.keys.length ≤ s.nd.vals.length) := hkv
  have HT : Hid (Tend R T J) := hT
  have HY : Hid (∀ pre x W1, J pre W1 → pre ++ [x] <+: lvE sp → YieldAt Fence.wide 0 Tryz.prog l #[.agg #[.string x.1, .string x.2]] W1 fun e W' => (e = .returned (.bool true) ∧ J (pre ++ [x]) W' ∧ Fr (T W1) W1 W' ∧ ∀ k, T W' k → T W1 k ∨ W1.heap.size ≤ k) ∨ (e = .returned (.bool false) ∧ Jx (pre ++ [x]) W')) := hY
  have HJ0 : Hid (J [] W) := h0
  have HW : Hid (Fr (fun k => ¬ R k) w W) := hW
  have c2 := hcl W hW
  clear hS hcl hT hJx hY h0 hn hW hkv
  refine callsIn_of_wp Tryz.func27 rfl trivial ?_ rfl
  simp only [Tryz.ntmps27, List.size_toArray, List.length_cons, List.length_nil, Nat.reduceAdd, Nat.reduceSub, Array.replicate_succ, Array.replicate_zero, List.push_toArray, List.append_toArray, List.nil_append, List.cons_append]
  gi_wp2
  gi_loopw [9] (fun i wr => ∃ (k : Nat) (pre : List (ByteArray × ByteArray)), k ≤ n ∧ i = .int .i64 k ∧ Hid (pre ++ lvE (sp.drop k) = lvE sp) ∧ Hid (J pre wr) ∧ Fr (fun k => ¬ R k) w wr) (fun i _ => n - (intOf i).toNat)
  case atStart => exact ⟨0, [], by omega, rfl, rfl, HJ0, HW.out⟩
  case round =>
    obtain ⟨k, pre, hk, rfl, HE, HJ, F⟩ := hrel
    by_cases hlt : k < n
    · obtain ⟨s, hs⟩ : ∃ s, sp[k]? = some s := ⟨_, List.getElem?_eq_getElem (by have := HN.out; omega)⟩
      obtain ⟨b, off, rfl, hb, hc⟩ := (HS.out _ F).some (by have := HN.out; omega)
      have hqq := sp_range (hc k s hs)
      have HNX := lvE_next hs
      have hsm := List.mem_of_getElem? hs
      have hkv := HKV.out s hsm
      have hnod := (HS.out _ F).nod s hsm
      have HKY : Hid (∀ W, Fr (fun k => ¬ R k) w W → Strs W s.pt.k s.pt.kc s.nd.keys ∧ Strs W s.pt.v s.pt.vc s.nd.vals) := fun W f => ⟨((HS.out _ f).nod s hsm).keys, ((HS.out _ f).nod s hsm).vals⟩
      obtain ⟨page, nd, ⟨pk, kc, pv, vc, pi, ic⟩, low⟩ := s
      dsimp only at hqq HNX hkv hnod HKY
      obtain ⟨q0, q1, q2, q3, q4, q5, q6, q7, q8⟩ := hqq
      have HE2 : Hid (pre ++ (ndE nd ++ lvE (sp.drop (k + 1))) = lvE sp) := by show _ = _; rw [← HNX]; exact HE.out
      have hki : (k : Int) < (n : Int) := by omega
      have hkl := hnod.keys.le
      have hkm := hnod.keys.max
      have hvl := hnod.vals.le
      have hvm := hnod.vals.max
      have HBX : Hid ((wr.alloc (.cells #[.int .i64 page, .int .i64 nd.lev, .int .i64 nd.lsn, .int .i64 nd.rgt, .string nd.high, .slice pk nd.keys.length kc, .slice pv nd.vals.length vc, .slice pi nd.kids.length ic, .string low] 73)).heap[wr.heap.size]? = some (.cells #[.int .i64 page, .int .i64 nd.lev, .int .i64 nd.lsn, .int .i64 nd.rgt, .string nd.high, .slice pk nd.keys.length kc, .slice pv nd.vals.length vc, .slice pi nd.kids.length ic, .string low] 73 (0, 0))) := heap_alloc_new wr _
      have HJ1 : Hid (J pre (wr.alloc (.cells #[.int .i64 page, .int .i64 nd.lev, .int .i64 nd.lsn, .int .i64 nd.rgt, .string nd.high, .slice pk nd.keys.length kc, .slice pv nd.vals.length vc, .slice pi nd.kids.length ic, .string low] 73))) := HT.out.steady _ _ _ HJ.out (Fr.box wr _)
      have HNT : Hid (¬ T (wr.alloc (.cells #[.int .i64 page, .int .i64 nd.lev, .int .i64 nd.lsn, .int .i64 nd.rgt, .string nd.high, .slice pk nd.keys.length kc, .slice pv nd.vals.length vc, .slice pi nd.kids.length ic, .string low] 73)) wr.heap.size) := fun e => by have := HT.out.old _ _ _ HJ.out (HT.out.back _ _ _ _ HJ.out (Fr.box wr _) e); omega
      have F1 : Fr (fun k => ¬ R k) w (wr.alloc (.cells #[.int .i64 page, .int .i64 nd.lev, .int .i64 nd.lsn, .int .i64 nd.rgt, .string nd.high, .slice pk nd.keys.length kc, .slice pv nd.vals.length vc, .slice pi nd.kids.length ic, .string low] 73)) := F.trans (Fr.box wr _) (fun _ _ f => f.elim)
      clear hs hc HNX HE hsm hnod
      rename World => W9
      gi_wp2
      gi_loopw [17] (fun jv wi => ∃ (j : Nat) (pre2 : List (ByteArray × ByteArray)), j ≤ nd.keys.length ∧ jv = .int .i64 j ∧ Hid (pre2 ++ ((ndE nd).drop j ++ lvE (sp.drop (k + 1))) = lvE sp) ∧ Hid (J pre2 wi) ∧ Hid (wi.heap[W9.heap.size]? = some (.cells #[.int .i64 page, .int .i64 nd.lev, .int .i64 nd.lsn, .int .i64 nd.rgt, .string nd.high, .slice pk nd.keys.length kc, .slice pv nd.vals.length vc, .slice pi nd.kids.length ic, .string low] 73 (0, 0))) ∧ Hid (¬ T wi W9.heap.size) ∧ Hid (W9.heap.size < wi.heap.size) ∧ Fr (fun k => ¬ R k) w wi) (fun jv _ => nd.keys.length - (intOf jv).toNat)
      case atStart => exact ⟨0, pre, by omega, rfl, HE2, HJ1, HBX, HNT, by show _ < _; simp, F1⟩
      case round =>
        obtain ⟨j, pre2, hj, rfl, HE3, HJ3, HB3, HN3, HZ3, G⟩ := hrel
        obtain ⟨d0, d1, d2, d3, d4, d5, d6, d7, d8⟩ := nine_cells HB3.out
        by_cases hjt : j < nd.keys.length
        · obtain ⟨hky, hvy⟩ := HKY.out _ G
          obtain ⟨bk, ok, rfl, hbk, hck⟩ := strs_some hky hjt
          obtain ⟨bv, ov, rfl, hbv, hcv⟩ := strs_some hvy (k := j) (by omega)
          have k0 := hck j hjt
          have v0 := hcv j (by omega)
          have HNX2 := ndE_next (n := nd) hjt (by omega)
          obtain ⟨x, hx⟩ : ∃ x, x = nd.keys.getD j ByteArray.empty := ⟨_, rfl⟩
          obtain ⟨y, hy⟩ : ∃ y, y = nd.vals.getD j ByteArray.empty := ⟨_, rfl⟩
          rw [← hx] at k0
          rw [← hy] at v0
          rw [← hx, ← hy] at HNX2
          have HE4 : Hid ((pre2 ++ [(x, y)]) ++ ((ndE nd).drop (j + 1) ++ lvE (sp.drop (k + 1))) = lvE sp) := by show _ = _; rw [← HE3.out, HNX2]; simp
          have hji : (j : Int) < (nd.keys.length : Int) := by omega
          have hjv : (j : Int) < (nd.vals.length : Int) := by omega
          obtain ⟨fn, tmps, assign, body, hyr, hR⟩ := HY.out pre2 (x, y) _ HJ3.out ⟨(ndE nd).drop (j + 1) ++ lvE (sp.drop (k + 1)), by rw [← HE4.out]⟩
          dsimp only at hyr
          clear hck hcv hx hy HNX2 HE3 hky hvy
          gi_wp2
          refine ⟨rfl, hR.mono ?_⟩
          rintro e W3 (⟨rfl, hJ4, hk4, hg4⟩ | ⟨rfl, hJx4⟩)
          · have HJ4 : Hid (J (pre2 ++ [(x, y)]) W3) := hJ4
            have HB4 := (show Hid _ from hk4.blk HB3.out HN3.out)
            have HN4 : Hid (¬ T W3 W9.heap.size) := fun e => by
              rcases hg4 _ e with h | h
              · exact HN3.out h
              · have := HZ3.out; omega
            have HZ4 : Hid (W9.heap.size < W3.heap.size) := by show _ < _; have := hk4.size; have := HZ3.out; omega
            have G4 : Fr (fun k => ¬ R k) w W3 := G.trans hk4 (fun i _ e => HT.out.apart _ _ _ HJ3.out e)
            clear hJ4 hk4 hg4 hR hyr
            gi_wp2
            go_roundw
            case rel => exact ⟨j + 1, pre2 ++ [(x, y)], by omega, by go_num, HE4, HJ4, HB4, HN4, HZ4, G4⟩
            case measure => simp [intOf]; omega
          · gi_wp2
            refine bodyPost_ret (results_none rfl _ _ _) rfl ?_
            exact ⟨⟨_, rfl⟩, .inr ⟨_, hJx4⟩⟩
        · have HE4 : Hid (pre2 ++ lvE (sp.drop (k + 1)) = lvE sp) := by
            show _ = _
            have e : (ndE nd).drop j = [] := List.drop_of_length_le (by unfold ndE; simp; omega)
            rw [← HE3.out, e]; rfl
          gi_wp2
          go_roundw
          case rel => exact ⟨k + 1, pre2, by omega, by go_num, HE4, HJ3, G⟩
          case measure => simp [intOf]; omega
    · have HS0 : Hid (pre = lvE sp) := by
        show _ = _
        rw [← HE.out, List.drop_of_length_le (by have := HN.out; omega)]
        simp [lvE]
      gi_wp2
      go_end0
      exact ⟨⟨_, rfl⟩, .inl ⟨pre, HS0.out, HJ.out⟩⟩
end Go.Proofs.YtnckmajfmkkpgaaGreat

/- The value of a key among a tree's entries. -/
namespace Go.Proofs.YtnckmajfmkkpgaaGreat
open Go.RowKit Go.Shelf
attribute [local go_sem] Oper.semAt_some

theorem isRow_lev {l : List Spt} {lev : Int} (h : isRowB l lev = true) : ∀ s ∈ l, s.nd.lev = lev := by
  induction l with
  | nil => intro s hs; cases hs
  | cons t l ih =>
    simp only [isRowB, Bool.and_eq_true, beq_iff_eq] at h
    intro s hs
    rcases List.mem_cons.1 hs with rfl | hs
    · exact h.1
    · exact ih h.2.2.2.2 s hs
theorem bel_ne {r ab : List Spt} (h : belB r ab = true) (hab : ab = [] ∨ ∃ s ∈ ab, s.nd.kids ≠ []) : r ≠ [] := by
  rintro rfl
  unfold belB at h
  rcases hab with rfl | ⟨s, hs, hk⟩
  · simp at h
  · rw [if_neg (by rintro rfl; cases hs)] at h
    have := List.all_eq_true.1 h s hs
    cases he : s.nd.kids with
    | nil => exact hk he
    | cons y ys => rw [he] at this; simp [klB, kl1B, sm] at this
theorem end_leaf {ls : List Sl} (hR : ∀ t ∈ ls, Rt t.nd) (k : Nat) : ∀ (x : Int) (ab : List Spt), (ab = [] ∨ ∃ s ∈ ab, s.nd.kids ≠ []) → chkF ab (rowsF ls (k + 1) x) = true → ∀ s ∈ endF ab (rowsF ls (k + 1) x), s.nd.lev = 0 := by
  induction k with
  | zero =>
    intro x ab hab h
    have e : nxt (rowsF ls 0) (rowS ls ls.length x ByteArray.empty) = [] := by
      cases hr : rowS ls ls.length x ByteArray.empty with
      | nil => rfl
      | cons s r =>
        cases hk : s.nd.kids with
        | nil => exact nxt_leaf _ _ hk
        | cons y ys => rw [nxt_kid _ _ hk]; rfl
    have e2 : rowsF ls (0 + 1) x = [(((0 : Nat) : Int), rowS ls ls.length x ByteArray.empty)] := by
      show _ :: nxt _ _ = _
      rw [e]
    rw [e2] at h ⊢
    simp only [chkF, endF, Bool.and_eq_true] at h ⊢
    intro s hs
    have := isRow_lev h.1.1 s hs
    simpa using this
  | succ k ih =>
    intro x ab hab h
    have e2 : rowsF ls (k + 1 + 1) x = (((k + 1 : Nat) : Int), rowS ls ls.length x ByteArray.empty) :: nxt (rowsF ls (k + 1)) (rowS ls ls.length x ByteArray.empty) := rfl
    rw [e2] at h ⊢
    simp only [chkF, endF, Bool.and_eq_true] at h ⊢
    have hne := bel_ne h.1.2 hab
    have hlv := isRow_lev h.1.1
    have hmem := rowS_mem (ls := ls) ls.length x ByteArray.empty
    generalize rowS ls ls.length x ByteArray.empty = r at *
    cases r with
    | nil => exact absurd rfl hne
    | cons s r =>
      obtain ⟨t, ht, e, _⟩ := hmem s (by simp)
      have rt := hR t ht
      rw [← e] at rt
      have hl := hlv s (by simp)
      obtain ⟨h1, _⟩ := rt.inner (by omega)
      cases hk : s.nd.kids with
      | nil => rw [hk] at h1; simp at h1
      | cons y ys =>
        have h3 := h.2
        rw [nxt_kid _ _ hk] at h3 ⊢
        exact ih y (s :: r) (.inr ⟨s, by simp, by rw [hk]; simp⟩) h3
theorem leaves_in {ls : List Sl} {sp : List Spt} (h : leavesF ls = some sp) : ∀ s ∈ sp, s.nd.lev = 0 ∧ Rt s.nd := by
  unfold leavesF at h
  by_cases h1 : ariB 0 (psOf ls) = true
  · rw [if_pos h1] at h
    by_cases h2 : chkF [] (lvR ls) = true
    · rw [if_pos h2] at h
      obtain rfl := Option.some.inj h
      have hri := (ari_ok 0 _ h1).2.2
      have hR : ∀ t ∈ ls, Rt t.nd := fun t ht => (right_iff _).1 (hri (t.page, t.nd) (List.mem_map.2 ⟨t, ht, rfl⟩))
      have ht : 0 ≤ topF ls := by
        unfold topF
        cases hh : hasB ls 1
        · simp
        · obtain ⟨s, hs, _⟩ := has_some hh
          rw [hs]
          simpa using (hR s (List.mem_of_getElem? hs)).lev0
      obtain ⟨k, hk⟩ : ∃ k : Nat, (topF ls + 1).toNat = k + 1 := ⟨(topF ls).toNat, by omega⟩
      intro s hs
      unfold lvR at h2 hs
      rw [hk] at h2 hs
      refine ⟨end_leaf hR k 1 [] (.inl rfl) h2 s hs, ?_⟩
      rcases end_mem (l := rowsF ls (k + 1) 1) with e | ⟨y, hy, e⟩
      · rw [e] at hs; cases hs
      · rw [← e] at hs
        obtain ⟨t, ht, e1, _⟩ := rowsF_mem _ _ y hy s hs
        rw [e1]; exact hR t ht
    · rw [if_neg h2] at h; cases h
  · rw [if_neg h1] at h; cases h
/-- The entries of pages: none, where they are no tree. -/
def treeE (ls : List Sl) : List (ByteArray × ByteArray) := lvE ((leavesF ls).getD [])
theorem lv_both {ls : List Sl} {w w' : World} {e : Ending} (h : LvOut ls w e w') : ∃ a n c b, e = .returned (.tuple #[.slice a n c, .bool b]) ∧ b = (leavesF ls).isSome ∧ n = ((leavesF ls).getD []).length ∧ Spots w' a c ((leavesF ls).getD []) ∧ (∀ s ∈ (leavesF ls).getD [], s.nd.keys.length ≤ s.nd.vals.length ∧ ∃ t ∈ ls, s.nd = t.nd ∧ s.pt = t.pt) ∧ Fr (fun _ => False) w w' := by
  obtain ⟨f, ⟨h1, rfl⟩ | ⟨sp, a, n, c, h1, hn, rfl, hs, hmm⟩⟩ := h
  · exact ⟨none, 0, 0, false, rfl, by rw [h1]; rfl, by rw [h1]; rfl, by rw [h1]; exact ⟨Nat.le_refl _, by omega, .inl rfl, (fun s hs => by cases hs)⟩, (by rw [h1]; intro s hs; cases hs), f⟩
  · refine ⟨a, n, c, true, rfl, by rw [h1]; rfl, by rw [h1]; exact hn, by rw [h1]; exact hs, ?_, f⟩
    rw [h1]
    intro s hs'
    obtain ⟨h2, h3⟩ := leaves_in h1 s hs'
    have := (h3.leaf h2).1
    exact ⟨by omega, hmm s hs'⟩
theorem entsOf_call (a : Option Addr) (n c : Nat) (w : World) : Calls Tryz.prog 14 #[.slice a n c] w fun e w' => e = .returned (.func (.func 27) #[] #[.pointer (some ⟨w.heap.size, 0, none⟩)]) ∧ w' = w.alloc (.cells #[.slice a n c] 45) := by
  go_enter Tryz.func14, Tryz.ntmps14
  go_wp2
  go_ret
  exact ⟨rfl, rfl⟩
/-- Rows of pages lie in no block of one cell. -/
theorem Spots.wide {W : World} {a : Option Addr} {c b off : Nat} {sp : List Spt} (h : Spots W a c sp) (hne : sp ≠ []) (ha : a = Option.some ⟨b, off, none⟩) {B : Nat} {v : Value} {t : TypeId} (hB : W.heap[B]? = Option.some (.cells #[v] t (0, 0))) : b ≠ B := by
  rintro rfl
  rcases h.at_ with h0 | ⟨b', off', e, _, hc⟩
  · exact hne h0
  · rw [ha] at e
    cases e
    obtain ⟨s, r, rfl⟩ := List.exists_cons_of_ne_nil hne
    have := (hc 0 s rfl) 8 _ rfl
    rw [World.cell?] at this
    simp [hB] at this
/-- Leaves are read on, while nothing of the pages is written, nor their own row. -/
theorem Spots.on {V W : World} {R : Nat → Prop} {a pa : Option Addr} {c pc : Nat} {sp : List Spt} {ls : List Sl} (h : Spots V a c sp) (f : Fr (fun k => ¬ R k) V W) (hS : Slots W pa pc ls) (hm : ∀ s ∈ sp, ∃ t ∈ ls, s.nd = t.nd ∧ s.pt = t.pt) (hR : ∀ b off, sp ≠ [] → a = Option.some ⟨b, off, none⟩ → R b) : Spots W a c sp := by
  refine ⟨h.le, h.max, ?_, fun s hs => by obtain ⟨t, ht, e1, e2⟩ := hm s hs; rw [e1, e2]; exact hS.nod t ht⟩
  by_cases h0 : sp = []
  · exact .inl h0
  · rcases h.at_ with h1 | ⟨b, off, rfl, hb, hc⟩
    · exact .inl h1
    · exact .inr ⟨b, off, rfl, Nat.lt_of_lt_of_le hb f.size, fun i r hr => range_fr (hc i r hr) f (fun e => e (hR b off h0 rfl))⟩
end Go.Proofs.YtnckmajfmkkpgaaGreat

/- Get. -/
namespace Go.Proofs.YtnckmajfmkkpgaaGreat
open Go.RowKit Go.Shelf
attribute [local go_sem] Oper.semAt_some

def fndE (es : List (ByteArray × ByteArray)) (k : ByteArray) : Option (ByteArray × ByteArray) := es.find? (fun e => e.1.toList == k.toList)
def geV (o : Option (ByteArray × ByteArray)) : ByteArray := match o with | none => ⟨#[]⟩ | some e => e.2
structure GtI (w : World) (k : ByteArray) (L pre : List (ByteArray × ByteArray)) (W : World) : Prop where
  pre_ : pre <+: L
  no : fndE pre k = none
  fr : Fr (fun _ => False) w W
  b3 : W.heap[w.heap.size]? = some (.cells #[.string k] 9 (0, 0))
  b4 : W.heap[w.heap.size + 1]? = some (.cells #[.string ⟨#[]⟩] 9 (0, 0))
  b5 : W.heap[w.heap.size + 2]? = some (.cells #[.bool false] 4 (0, 0))
structure GtX (w : World) (k : ByteArray) (L : List (ByteArray × ByteArray)) (c : Code) (pre : List (ByteArray × ByteArray)) (W : World) : Prop where
  ret : c = .ret
  fr : Fr (fun _ => False) w W
  hit : ∃ x, fndE L k = some x ∧ W.heap[w.heap.size + 1]? = some (.cells #[.string x.2] 9 (0, 0))
  b5 : W.heap[w.heap.size + 2]? = some (.cells #[.bool true] 4 (0, 0))
theorem two_cells {W : World} {b : Nat} {t : TypeId} {c0 c1 : Value} (h : W.heap[b]? = some (.cells #[c0, c1] t (0, 0))) : W.cell? ⟨b, 0, none⟩ = some c0 ∧ W.cell? ⟨b, 1, none⟩ = some c1 := by
  constructor <;> simp [World.cell?, h]
set_option maxRecDepth 100000 in
set_option maxHeartbeats 4000000 in
theorem get_any (tp : Option Addr) (k : ByteArray) (a : Option Addr) (n c : Nat) (ls : List Sl) (hn : n = ls.length) (w : World) (h : Slots w a c ls) (hall : ∀ W, Fr (fun _ => False) w W → Calls Tryz.prog 12 #[.pointer tp] W fun e w' => e = .returned (.slice a n c) ∧ Fr (fun _ => False) W w') :
    Calls Tryz.prog 4 #[.pointer tp, .string k] w fun e w' => e = .returned (.tuple #[.string (geV (fndE (treeE ls) k)), .bool (fndE (treeE ls) k).isSome]) ∧ Fr (fun _ => False) w w' := by
  have f0 : Fr (fun _ => False) w (((w.alloc (.cells #[.string k] 9)).alloc (.cells #[.string ⟨#[]⟩] 9)).alloc (.cells #[.bool false] 4)) := (((Fr.refl _ _).alloc _).alloc _).alloc _
  obtain ⟨hB3, hB4, hB5⟩ := three_at w (.cells #[.string k] 9) (.cells #[.string ⟨#[]⟩] 9) (.cells #[.bool false] 4) (Fr.refl _ _)
  have hsz : (((w.alloc (.cells #[.string k] 9)).alloc (.cells #[.string ⟨#[]⟩] 9)).alloc (.cells #[.bool false] 4)).heap.size = w.heap.size + 3 := by simp
  have HAL : Hid (∀ W, Fr (fun _ => False) w W → Calls Tryz.prog 12 #[.pointer tp] W fun e w' => e = .returned (.slice a n c) ∧ Fr (fun _ => False) W w') := hall
  have HLV : Hid (∀ W, Fr (fun _ => False) w W → Calls Tryz.prog 13 #[.slice a n c] W fun e w' => LvOut ls W e w') := fun W f => leaves_any a n c ls hn W (h.same f)
  have HSL : Hid (∀ W, Fr (fun _ => False) w W → Slots W a c ls) := fun W f => h.same f
  clear hall h hn
  refine (callsIn_wide (n := 0)).1 ?_
  refine callsIn_of_wp_marks Tryz.func4 rfl trivial ?_ rfl
  simp only [Tryz.ntmps4, List.size_toArray, List.length_cons, List.length_nil, Nat.reduceAdd, Nat.reduceSub, Array.replicate_succ, Array.replicate_zero, List.push_toArray, List.append_toArray, List.nil_append, List.cons_append]
  gi_wp2
  generalize ((w.alloc (.cells #[.string k] 9)).alloc (.cells #[.string ⟨#[]⟩] 9)).alloc (.cells #[.bool false] 4) = V0 at *
  refine ⟨trivial, rfl, (callsIn_wide.2 (HAL.out _ f0)).mono ?_⟩
  rintro e w1 ⟨rfl, f1⟩
  gi_wp2
  refine ⟨trivial, rfl, (callsIn_wide.2 (HLV.out _ (f0.seq' f1))).mono ?_⟩
  intro e w2 hlv
  obtain ⟨la, ln, lc, lb, rfl, _, hln, hsp, hkv, f2⟩ := lv_both hlv
  have hTE : treeE ls = lvE ((leavesF ls).getD []) := rfl
  generalize (leavesF ls).getD [] = sp at *
  clear hlv
  have HLN : Hid (ln = sp.length) := hln
  clear hln
  gi_wp2
  refine ⟨trivial, rfl, (callsIn_wide.2 (entsOf_call la ln lc _)).mono ?_⟩
  rintro e w' ⟨rfl, rfl⟩
  gi_wp2
  have fa := Fr.box w2 (.cells #[.slice la ln lc] 45)
  have hbl := heap_alloc_new w2 (.cells #[.slice la ln lc] 45)
  have hs2 : (w2.alloc (.cells #[.slice la ln lc] 45)).heap.size = w2.heap.size + 1 := by simp
  have F2 := (f1.seq' f2).seq' fa
  have hz2 := (f1.seq' f2).size
  have fV := f0.seq' F2
  have hv3 := F2.blk hB3 (fun f => f)
  have hv4 := F2.blk hB4 (fun f => f)
  have hv5 := F2.blk hB5 (fun f => f)
  have hsV := hsp.same fa
  generalize w2.alloc (.cells #[.slice la ln lc] 45) = V at *
  have hit := ent_iter la ln lc sp HLN.out (fun s hs => (hkv s hs).1) w2.heap.size (fun q => q < V.heap.size ∧ q ≠ w.heap.size + 1 ∧ q ≠ w.heap.size + 2) V ?S ?C
  case S =>
    intro W f
    refine hsV.on f (HSL.out _ (fV.trans f (fun i hi e => e ⟨by have := fV.size; omega, by omega, by omega⟩))) (fun s hs => (hkv s hs).2) (fun b off hne ha => ?_)
    have hlt : b < V.heap.size := by
      rcases hsV.at_ with h0 | ⟨b', off', e, hb, _⟩
      · exact absurd h0 hne
      · rw [ha] at e; cases e; exact hb
    exact ⟨hlt, hsV.wide hne ha hv4, hsV.wide hne ha hv5⟩
  case C => intro W f; exact (one_cells (f.blk hbl (fun e => e ⟨by omega, by omega, by omega⟩))).1
  refine over (gf := 27) (lb := #[.pointer (some ⟨w2.heap.size, 0, none⟩)]) rfl (enters_of Tryz.func27 (by kernel_rfl) rfl) hit (Fr.refl _ _) (fun _ => rfl)
    (fun _ q => q = w.heap.size + 1 ∨ q = w.heap.size + 2) (GtI w k (lvE sp)) (GtX w k (lvE sp)) ?st ?stx ?ol ?bk ?ap ?h0 ?round ?done ?stop
  case st => intro pre A B hI f; exact ⟨hI.pre_, hI.no, hI.fr.trans f (fun i hi e => by omega), f.blk hI.b3 (by omega), f.blk hI.b4 (by omega), f.blk hI.b5 (by omega)⟩
  case stx =>
    intro cd pre A B hX f
    obtain ⟨x, h1, h2⟩ := hX.hit
    exact ⟨hX.ret, hX.fr.trans f (fun i hi e => by omega), ⟨x, h1, f.blk h2 (by omega)⟩, f.blk hX.b5 (by omega)⟩
  case ol =>
    rintro pre A q hI (rfl | rfl)
    · exact lt_of_block hI.b4
    · exact lt_of_block hI.b5
  case bk => intro pre A B q _ _ h; exact h
  case ap => rintro pre A q _ (rfl | rfl) <;> exact ⟨by omega, by omega, by omega⟩
  case h0 => exact ⟨List.nil_prefix, rfl, fV, hv3, hv4, hv5⟩
  case round =>
    rintro pre ⟨x, y⟩ W hI hpx hz _
    dsimp only
    gi_wp2
    refine ⟨Fr.box W _, fun W2 f2 => ?_⟩
    have hbx := f2.blk (heap_alloc_new W (.cells #[.string x, .string y] 54)) (by omega)
    have FW : Fr (fun q => q = V.heap.size + 1) W W2 := ((Fr.box W (.cells #[.string x, .string y] 54)).widen (fun _ f => f.elim)).trans f2 (fun _ _ e => e)
    have hI2 : GtI w k (lvE sp) pre W2 := ⟨hI.pre_, hI.no, hI.fr.trans FW (fun i hi e => by omega), FW.blk hI.b3 (by omega), FW.blk hI.b4 (by omega), FW.blk hI.b5 (by omega)⟩
    obtain ⟨e0, e1⟩ := two_cells hbx
    obtain ⟨c0, _⟩ := one_cells hI2.b3
    obtain ⟨c1, c2⟩ := one_cells hI2.b4
    obtain ⟨d1, d2⟩ := one_cells hI2.b5
    have HPX : Hid (pre ++ [(x, y)] <+: lvE sp) := hpx
    have HFN : Hid (fndE (pre ++ [(x, y)]) k = if (x.toList == k.toList) = true then some (x, y) else none) := by
      show _ = _
      unfold fndE
      rw [List.find?_append, show List.find? (fun e => e.1.toList == k.toList) pre = none from hI.no, Option.none_or, List.find?_cons, List.find?_nil]
      cases (x.toList == k.toList) <;> rfl
    obtain ⟨b1, h1⟩ : ∃ b, b = (x.toList == k.toList) := ⟨_, rfl⟩
    rw [← h1] at HFN
    have e5 := h1.symm
    clear h1 hI hpx hbx
    cases b1
    · gi_wp2
      exact ⟨Fr.refl _ _, fun q h => .inl h, HPX.out, HFN.out, hI2.fr, hI2.b3, hI2.b4, hI2.b5⟩
    · have fs : Fr (fun q => q = w.heap.size + 1 ∨ q = w.heap.size + 2) W2 ((W2.setCell ⟨w.heap.size + 1, 0, none⟩ (.string y)).setCell ⟨w.heap.size + 2, 0, none⟩ (.bool true)) := ((Fr.refl (fun q => q = w.heap.size + 1 ∨ q = w.heap.size + 2) W2).setCell (p := ⟨w.heap.size + 1, 0, none⟩) (fun _ => .inl rfl) _).setCell (p := ⟨w.heap.size + 2, 0, none⟩) (fun _ => .inr rfl) _
      have hb4 := one_setCell hI2.b4 (.string y)
      have hb5 := one_setCell (((Fr.refl (fun q => q = w.heap.size + 1) W2).setCell (p := ⟨w.heap.size + 1, 0, none⟩) (fun _ => rfl) (.string y)).blk hI2.b5 (by omega)) (.bool true)
      have hb4' := ((Fr.refl (fun q => q = w.heap.size + 2) _).setCell (p := ⟨w.heap.size + 2, 0, none⟩) (fun _ => rfl) (.bool true)).blk hb4 (by omega)
      have HFL : Hid (fndE (lvE sp) k = some (x, y)) := by
        obtain ⟨r, hr⟩ := HPX.out
        have h9 := HFN.out
        rw [if_pos rfl] at h9
        show _ = _
        rw [← hr]
        unfold fndE at h9 ⊢
        rw [List.find?_append, h9]; rfl
      gi_wp2
      exact ⟨fs, rfl, hI2.fr.trans fs (fun i hi e => by omega), ⟨(x, y), HFL.out, hb4'⟩, hb5⟩
  case done =>
    rintro xs W rfl hI hK
    obtain ⟨c1, c2⟩ := one_cells hI.b4
    obtain ⟨d1, d2⟩ := one_cells hI.b5
    have fs : Fr (fun q => q = w.heap.size + 1 ∨ q = w.heap.size + 2) W ((W.setCell ⟨w.heap.size + 1, 0, none⟩ (.string ⟨#[]⟩)).setCell ⟨w.heap.size + 2, 0, none⟩ (.bool false)) := ((Fr.refl (fun q => q = w.heap.size + 1 ∨ q = w.heap.size + 2) W).setCell (p := ⟨w.heap.size + 1, 0, none⟩) (fun _ => .inl rfl) _).setCell (p := ⟨w.heap.size + 2, 0, none⟩) (fun _ => .inr rfl) _
    have hb4 := one_setCell hI.b4 (.string ⟨#[]⟩)
    have hb5 := one_setCell (((Fr.refl (fun q => q = w.heap.size + 1) W).setCell (p := ⟨w.heap.size + 1, 0, none⟩) (fun _ => rfl) (.string ⟨#[]⟩)).blk hI.b5 (by omega)) (.bool false)
    have hb4' := ((Fr.refl (fun q => q = w.heap.size + 2) _).setCell (p := ⟨w.heap.size + 2, 0, none⟩) (fun _ => rfl) (.bool false)).blk hb4 (by omega)
    have hK2 := fs.blk hK (by omega)
    have fp := Fr.put ((W.setCell ⟨w.heap.size + 1, 0, none⟩ (.string ⟨#[]⟩)).setCell ⟨w.heap.size + 2, 0, none⟩ (.bool false)) V.heap.size (.deferred none)
    have fE : Fr (fun _ => False) w (((W.setCell ⟨w.heap.size + 1, 0, none⟩ (.string ⟨#[]⟩)).setCell ⟨w.heap.size + 2, 0, none⟩ (.bool false)).putObj V.heap.size (.deferred none)) := (hI.fr.trans fs (fun i hi e => by omega)).trans fp (fun i hi e => by omega)
    obtain ⟨g0, _⟩ := one_cells (fp.blk hb4' (by omega))
    obtain ⟨g1, _⟩ := one_cells (fp.blk hb5 (by omega))
    have HNO : Hid (fndE (treeE ls) k = none) := by show _ = _; rw [hTE]; exact hI.no
    clear hs2
    gi_wp2
    refine ⟨by simp, .inl ⟨_, _, rfl, run_takeDeferred hK2, ?_⟩⟩
    generalize ((W.setCell ⟨w.heap.size + 1, 0, none⟩ (.string ⟨#[]⟩)).setCell ⟨w.heap.size + 2, 0, none⟩ (.bool false)).putObj V.heap.size (.deferred none) = Wf at *
    exact ⟨.tuple #[.string ⟨#[]⟩, .bool false], by simp [results, Tryz.results4, go_sem, g0, g1], by rw [HNO.out]; rfl, fE⟩
  case stop =>
    rintro cd pre W hX hK
    obtain rfl := hX.ret
    obtain ⟨x, hx, hb4⟩ := hX.hit
    have fp := Fr.put W V.heap.size (.deferred none)
    have fE := hX.fr.trans fp (S := fun _ => False) (fun i hi e => by omega)
    obtain ⟨g0, _⟩ := one_cells (fp.blk hb4 (by omega))
    obtain ⟨g1, _⟩ := one_cells (fp.blk hX.b5 (by omega))
    have HNO : Hid (fndE (treeE ls) k = some x) := by show _ = _; rw [hTE]; exact hx
    clear hs2
    gi_wp2
    refine ⟨by simp, .inl ⟨_, _, rfl, run_takeDeferred hK, ?_⟩⟩
    exact ⟨.tuple #[.string x.2, .bool true], by simp [results, Tryz.results4, go_sem, g0, g1], by rw [HNO.out]; rfl, fE⟩
end Go.Proofs.YtnckmajfmkkpgaaGreat
