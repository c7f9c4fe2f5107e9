
/- The node of a page: what both Finds tell. -/
import Derived.Test.YtlgceleelhppdaaGreatRpBig
import Derived.Test.YtlgceleelhppdaaGreatDR40
namespace Go.Proofs.YtlgceleelhppdaaGreat
open Go.RowKit

/-- The first page of that number. -/
def fnd (ps : List (Int × Nd)) (x : Int) : Option (Int × Nd) := ps.find? (fun s => s.1 == x)
def fdN (o : Option (Int × Nd)) : Nd := match o with | none => zn | some s => s.2
def fdB (o : Option (Int × Nd)) : Bool := o.isSome
theorem fnd_yes {ls : List Sl} {j : Nat} {s : Sl} (x : Int) (h : ls[j]? = some s) (e : s.page = x) : fnd (psOf (ls.drop j)) x = some (s.page, s.nd) := by
  have hj := (List.getElem?_eq_some_iff.1 h).1
  rw [List.drop_eq_getElem_cons hj, (List.getElem?_eq_some_iff.1 h).2]
  simp [fnd, psOf, e]
theorem fnd_no {ls : List Sl} {j : Nat} {s : Sl} (x : Int) (h : ls[j]? = some s) (e : s.page ≠ x) : fnd (psOf (ls.drop j)) x = fnd (psOf (ls.drop (j + 1))) x := by
  have hj := (List.getElem?_eq_some_iff.1 h).1
  rw [List.drop_eq_getElem_cons hj, (List.getElem?_eq_some_iff.1 h).2]
  simp [fnd, psOf, e]
/-- What Find tells. -/
def FdOut (o : Option (Int × Nd)) (w : World) (e : Ending) (w' : World) : Prop := ∃ (m : Nd) (b : Bool) (q : Pt), e = .returned (.tuple #[(.agg #[.int .i64 m.lev, .int .i64 m.lsn, .int .i64 m.rgt, .string m.high, .slice q.k m.keys.length q.kc, .slice q.v m.vals.length q.vc, .slice q.i m.kids.length q.ic]), .bool b]) ∧ m = fdN o ∧ b = fdB o ∧ Nod w' m q ∧ Fr (fun _ => False) w w'
theorem fd_nil {o : Option (Int × Nd)} {w w' : World} (h : o = none) (f : Fr (fun _ => False) w w') : FdOut o w (.returned (.tuple #[.agg #[.int .i64 0, .int .i64 0, .int .i64 0, .string ⟨#[]⟩, .slice none 0 0, .slice none 0 0, .slice none 0 0], .bool false])) w' := by
  subst h
  exact ⟨zn, false, zp, rfl, rfl, rfl, zn_nod _, f⟩
set_option maxRecDepth 100000 in
set_option maxHeartbeats 4000000 in
theorem rfind_any (a : Option Addr) (n c : Nat) (ls : List Sl) (x : Int) (hn : n = ls.length) (w : World) (h : Slots w a c ls) :
    Calls Tryz.prog 8 #[.slice a n c, .int .i64 x] w fun e w' => FdOut (fnd (psOf ls) x) w e w' := by
  have hle : n ≤ c := by rw [hn]; exact h.le
  have hmx := h.max
  have HS : Hid (∀ W, Fr (fun _ => False) w W → Slots W a c ls) := fun W f => h.same f
  have HOF : Hid (∀ s ∈ ls, Off (fun k => k = w.heap.size) s.nd s.pt) := fun s hs => (h.nod s hs).far (fun b hb e => by omega)
  have HN : Hid (n = ls.length) := hn
  have f0 : Fr (fun _ => False) w (w.alloc (.cells #[.int .i64 0, .int .i64 0, .int .i64 0, .string ⟨#[]⟩, .slice none 0 0, .slice none 0 0, .slice none 0 0] 34)) := Fr.box w _
  have HZ : Hid (∀ W, Fr (fun _ => False) (w.alloc (.cells #[.int .i64 0, .int .i64 0, .int .i64 0, .string ⟨#[]⟩, .slice none 0 0, .slice none 0 0, .slice none 0 0] 34)) W → W.heap[w.heap.size]? = some (.cells #[.int .i64 0, .int .i64 0, .int .i64 0, .string ⟨#[]⟩, .slice none 0 0, .slice none 0 0, .slice none 0 0] 34 (0, 0))) := fun W f => f.blk (heap_alloc_new w _) (fun f => f)
  clear h hn
  go_enter Tryz.func8, Tryz.ntmps8
  go_wp2
  go_loopw [10] (fun i wr => ∃ (k : Nat), k ≤ n ∧ i = .int .i64 k ∧ Hid (fnd (psOf (ls.drop k)) x = fnd (psOf ls) x) ∧ Fr (fun _ => False) (w.alloc (.cells #[.int .i64 0, .int .i64 0, .int .i64 0, .string ⟨#[]⟩, .slice none 0 0, .slice none 0 0, .slice none 0 0] 34)) wr) (fun i _ => n - (intOf i).toNat)
  case atStart => exact ⟨0, by omega, rfl, rfl, Fr.refl _ _⟩
  case round =>
    obtain ⟨k, hk, rfl, HE, F⟩ := hrel
    by_cases hlt : k < n
    · obtain ⟨s, hs⟩ : ∃ s, ls[k]? = some s := ⟨_, List.getElem?_eq_getElem (by have := HN.out; omega)⟩
      obtain ⟨b, off, rfl, hb, hc⟩ := (HS.out _ (f0.seq' F)).some (by have := HN.out; omega)
      obtain ⟨q0, q1, q2, q3, q4, q5, q6, q7⟩ := sl_range (hc k s hs)
      have hki : (k : Int) < (n : Int) := by omega
      have FB := F.alloc (.cells #[.int .i64 s.page, .int .i64 s.nd.lev, .int .i64 s.nd.lsn, .int .i64 s.nd.rgt, .string s.nd.high, .slice s.pt.k s.nd.keys.length s.pt.kc, .slice s.pt.v s.nd.vals.length s.pt.vc, .slice s.pt.i s.nd.kids.length s.pt.ic] 55)
      have hbx := heap_alloc_new wr (.cells #[.int .i64 s.page, .int .i64 s.nd.lev, .int .i64 s.nd.lsn, .int .i64 s.nd.rgt, .string s.nd.high, .slice s.pt.k s.nd.keys.length s.pt.kc, .slice s.pt.v s.nd.vals.length s.pt.vc, .slice s.pt.i s.nd.kids.length s.pt.ic] 55)
      by_cases he : s.page = x
      · have HV : Hid (fnd (psOf ls) x = some (s.page, s.nd)) := by show _ = _; rw [← HE.out]; exact fnd_yes x hs he
        have hb1 : (s.page == x) = true := by simpa using he
        obtain ⟨hq, ff⟩ := fin7 (HZ.out _ FB) (.int .i64 s.nd.lev) (.int .i64 s.nd.lsn) (.int .i64 s.nd.rgt) (.string s.nd.high) (.slice s.pt.k s.nd.keys.length s.pt.kc) (.slice s.pt.v s.nd.vals.length s.pt.vc) (.slice s.pt.i s.nd.kids.length s.pt.ic)
        obtain ⟨⟨s0, s1, s2, s3, s4, s5, s6⟩, sz⟩ := node_cells (HZ.out _ FB)
        have y0 := sz 0; have y1 := sz 1; have y2 := sz 2; have y3 := sz 3; have y4 := sz 4; have y5 := sz 5; have y6 := sz 6
        have fff := (f0.seq' FB).trans ff (S := fun _ => False) (fun i hi e => by omega)
        have nd := ((HS.out _ (f0.seq' FB)).nod s (List.mem_of_getElem? hs)).frS ff (HOF.out s (List.mem_of_getElem? hs))
        clear sz hs hc he HE
        go_wp2
        generalize ((((((((wr.alloc (.cells #[.int .i64 s.page, .int .i64 s.nd.lev, .int .i64 s.nd.lsn, .int .i64 s.nd.rgt, .string s.nd.high, .slice s.pt.k s.nd.keys.length s.pt.kc, .slice s.pt.v s.nd.vals.length s.pt.vc, .slice s.pt.i s.nd.kids.length s.pt.ic] 55)).setCell ⟨w.heap.size, 0, none⟩ (.int .i64 s.nd.lev)).setCell ⟨w.heap.size, 1, none⟩ (.int .i64 s.nd.lsn)).setCell ⟨w.heap.size, 2, none⟩ (.int .i64 s.nd.rgt)).setCell ⟨w.heap.size, 3, none⟩ (.string s.nd.high)).setCell ⟨w.heap.size, 4, none⟩ (.slice s.pt.k s.nd.keys.length s.pt.kc)).setCell ⟨w.heap.size, 5, none⟩ (.slice s.pt.v s.nd.vals.length s.pt.vc)).setCell ⟨w.heap.size, 6, none⟩ (.slice s.pt.i s.nd.kids.length s.pt.ic)) = Wf at hq nd fff ⊢
        obtain ⟨⟨g0, g1, g2, g3, g4, g5, g6⟩, _⟩ := node_cells hq
        rw [HV.out]
        exact bodyPost_ret (v := .tuple #[(.agg #[.int .i64 s.nd.lev, .int .i64 s.nd.lsn, .int .i64 s.nd.rgt, .string s.nd.high, .slice s.pt.k s.nd.keys.length s.pt.kc, .slice s.pt.v s.nd.vals.length s.pt.vc, .slice s.pt.i s.nd.kids.length s.pt.ic]), .bool true]) (by simp [results, Tryz.results8, go_sem, g0, g1, g2, g3, g4, g5, g6]) rfl ⟨s.nd, true, s.pt, rfl, rfl, rfl, nd, fff⟩
      · have HV : Hid (fnd (psOf (ls.drop (k + 1))) x = fnd (psOf ls) x) := by show _ = _; rw [← HE.out]; exact (fnd_no x hs he).symm
        have hb1 : (s.page == x) = false := by simpa using he
        clear hs hc he HE
        go_wp2
        go_roundw
        case rel => exact ⟨k + 1, by omega, by go_num, HV, FB⟩
        case measure => simp [intOf]; omega
    · have HV : Hid (fnd (psOf ls) x = none) := by
        show _ = _
        rw [← HE.out, List.drop_of_length_le (by have := HN.out; omega)]; rfl
      obtain ⟨hq, ff⟩ := fin7 (HZ.out _ F) (.int .i64 0) (.int .i64 0) (.int .i64 0) (.string ⟨#[]⟩) (.slice none 0 0) (.slice none 0 0) (.slice none 0 0)
      obtain ⟨⟨s0, s1, s2, s3, s4, s5, s6⟩, sz⟩ := node_cells (HZ.out _ F)
      have y0 := sz 0; have y1 := sz 1; have y2 := sz 2; have y3 := sz 3; have y4 := sz 4; have y5 := sz 5; have y6 := sz 6
      have fff := (f0.seq' F).trans ff (S := fun _ => False) (fun i hi e => by omega)
      clear sz HE
      go_wp2
      generalize (((((((wr.setCell ⟨w.heap.size, 0, none⟩ (.int .i64 0)).setCell ⟨w.heap.size, 1, none⟩ (.int .i64 0)).setCell ⟨w.heap.size, 2, none⟩ (.int .i64 0)).setCell ⟨w.heap.size, 3, none⟩ (.string ⟨#[]⟩)).setCell ⟨w.heap.size, 4, none⟩ (.slice none 0 0)).setCell ⟨w.heap.size, 5, none⟩ (.slice none 0 0)).setCell ⟨w.heap.size, 6, none⟩ (.slice none 0 0)) = Wf at hq fff ⊢
      obtain ⟨⟨g0, g1, g2, g3, g4, g5, g6⟩, _⟩ := node_cells hq
      exact bodyPost_ret (v := .tuple #[.agg #[.int .i64 0, .int .i64 0, .int .i64 0, .string ⟨#[]⟩, .slice none 0 0, .slice none 0 0, .slice none 0 0], .bool false]) (by simp [results, Tryz.results8, go_sem, g0, g1, g2, g3, g4, g5, g6]) rfl (fd_nil HV.out fff)
set_option maxRecDepth 100000 in
set_option maxHeartbeats 4000000 in
theorem find_any (a : Option Addr) (n c : Nat) (ls : List Sl) (x : Int) (hn : n = ls.length) (hz : ∀ s ∈ ls, Szd s.nd) (w : World) (h : Slots w a c ls) :
    Calls Tryz.prog 7 #[.slice a n c, .int .i64 x] w fun e w' => FdOut (fnd (psOf ls) x) w e w' := by
  have hle : n ≤ c := by rw [hn]; exact h.le
  have hmx := h.max
  have HS : Hid (∀ W, Fr (fun _ => False) w W → Slots W a c ls) := fun W f => h.same f
  have HZD : Hid (∀ s ∈ ls, Szd s.nd) := hz
  have HN : Hid (n = ls.length) := hn
  have f0 : Fr (fun _ => False) w (w.alloc (.cells #[.int .i64 0, .int .i64 0, .int .i64 0, .string ⟨#[]⟩, .slice none 0 0, .slice none 0 0, .slice none 0 0] 34)) := Fr.box w _
  have HZ : Hid (∀ W, Fr (fun _ => False) (w.alloc (.cells #[.int .i64 0, .int .i64 0, .int .i64 0, .string ⟨#[]⟩, .slice none 0 0, .slice none 0 0, .slice none 0 0] 34)) W → W.heap[w.heap.size]? = some (.cells #[.int .i64 0, .int .i64 0, .int .i64 0, .string ⟨#[]⟩, .slice none 0 0, .slice none 0 0, .slice none 0 0] 34 (0, 0))) := fun W f => f.blk (heap_alloc_new w _) (fun f => f)
  clear h hn hz
  go_enter Tryz.func7, Tryz.ntmps7
  go_wp2
  go_loopw [10] (fun i wr => ∃ (k : Nat), k ≤ n ∧ i = .int .i64 k ∧ Hid (fnd (psOf (ls.drop k)) x = fnd (psOf ls) x) ∧ Fr (fun _ => False) (w.alloc (.cells #[.int .i64 0, .int .i64 0, .int .i64 0, .string ⟨#[]⟩, .slice none 0 0, .slice none 0 0, .slice none 0 0] 34)) wr) (fun i _ => n - (intOf i).toNat)
  case atStart => exact ⟨0, by omega, rfl, rfl, Fr.refl _ _⟩
  case round =>
    obtain ⟨k, hk, rfl, HE, F⟩ := hrel
    by_cases hlt : k < n
    · obtain ⟨s, hs⟩ : ∃ s, ls[k]? = some s := ⟨_, List.getElem?_eq_getElem (by have := HN.out; omega)⟩
      obtain ⟨b, off, rfl, hb, hc⟩ := (HS.out _ (f0.seq' F)).some (by have := HN.out; omega)
      obtain ⟨q0, q1, q2, q3, q4, q5, q6, q7⟩ := sl_range (hc k s hs)
      have hki : (k : Int) < (n : Int) := by omega
      have FB := F.alloc (.cells #[.int .i64 s.page, .int .i64 s.nd.lev, .int .i64 s.nd.lsn, .int .i64 s.nd.rgt, .string s.nd.high, .slice s.pt.k s.nd.keys.length s.pt.kc, .slice s.pt.v s.nd.vals.length s.pt.vc, .slice s.pt.i s.nd.kids.length s.pt.ic] 45)
      have hbx := heap_alloc_new wr (.cells #[.int .i64 s.page, .int .i64 s.nd.lev, .int .i64 s.nd.lsn, .int .i64 s.nd.rgt, .string s.nd.high, .slice s.pt.k s.nd.keys.length s.pt.kc, .slice s.pt.v s.nd.vals.length s.pt.vc, .slice s.pt.i s.nd.kids.length s.pt.ic] 45)
      by_cases he : s.page = x
      · have HV : Hid (fnd (psOf ls) x = some (s.page, s.nd)) := by show _ = _; rw [← HE.out]; exact fnd_yes x hs he
        have hb1 : (s.page == x) = true := by simpa using he
        have hsz := HZD.out s (List.mem_of_getElem? hs)
        have hnod := (HS.out _ (f0.seq' FB)).nod s (List.mem_of_getElem? hs)
        have hcp := rd_copiedB s.nd s.pt hsz.1 hsz.2.1 hsz.2.2 _ hnod
        have HND : Hid (Nod (wr.alloc (.cells #[.int .i64 s.page, .int .i64 s.nd.lev, .int .i64 s.nd.lsn, .int .i64 s.nd.rgt, .string s.nd.high, .slice s.pt.k s.nd.keys.length s.pt.kc, .slice s.pt.v s.nd.vals.length s.pt.vc, .slice s.pt.i s.nd.kids.length s.pt.ic] 45)) s.nd s.pt) := hnod
        have hzz := FB.size
        simp only [World.size_alloc] at hzz
        clear hs hc he HE hsz hnod
        go_wp2_with fail
        refine hcp.mono ?_
        intro e w3 ho3
        obtain ⟨q, rfl, ndq, hnw, f3⟩ := cp_nodB ho3 HND.out
        clear hcp ho3 q0 q1 q2 q3 q4 q5 q6 q7
        have F3 := FB.seq' f3
        obtain ⟨hq, ff⟩ := fin7 (HZ.out _ F3) (.int .i64 s.nd.lev) (.int .i64 s.nd.lsn) (.int .i64 s.nd.rgt) (.string s.nd.high) (.slice q.k s.nd.keys.length q.kc) (.slice q.v s.nd.vals.length q.vc) (.slice q.i s.nd.kids.length q.ic)
        obtain ⟨⟨s0, s1, s2, s3, s4, s5, s6⟩, sz⟩ := node_cells (HZ.out _ F3)
        have y0 := sz 0; have y1 := sz 1; have y2 := sz 2; have y3 := sz 3; have y4 := sz 4; have y5 := sz 5; have y6 := sz 6
        have fff := (f0.seq' F3).trans ff (S := fun _ => False) (fun i hi e => by omega)
        have nd := nd_far ndq ff (fun b off hx e => by have := hnw b off hx; simp at this; omega)
        clear sz ndq hnw
        go_wp2
        generalize (((((((w3.setCell ⟨w.heap.size, 0, none⟩ (.int .i64 s.nd.lev)).setCell ⟨w.heap.size, 1, none⟩ (.int .i64 s.nd.lsn)).setCell ⟨w.heap.size, 2, none⟩ (.int .i64 s.nd.rgt)).setCell ⟨w.heap.size, 3, none⟩ (.string s.nd.high)).setCell ⟨w.heap.size, 4, none⟩ (.slice q.k s.nd.keys.length q.kc)).setCell ⟨w.heap.size, 5, none⟩ (.slice q.v s.nd.vals.length q.vc)).setCell ⟨w.heap.size, 6, none⟩ (.slice q.i s.nd.kids.length q.ic)) = Wf at hq nd fff ⊢
        obtain ⟨⟨g0, g1, g2, g3, g4, g5, g6⟩, _⟩ := node_cells hq
        rw [HV.out]
        exact bodyPost_ret (v := .tuple #[(.agg #[.int .i64 s.nd.lev, .int .i64 s.nd.lsn, .int .i64 s.nd.rgt, .string s.nd.high, .slice q.k s.nd.keys.length q.kc, .slice q.v s.nd.vals.length q.vc, .slice q.i s.nd.kids.length q.ic]), .bool true]) (by simp [results, Tryz.results7, go_sem, g0, g1, g2, g3, g4, g5, g6]) rfl ⟨s.nd, true, q, rfl, rfl, rfl, nd, fff⟩
      · have HV : Hid (fnd (psOf (ls.drop (k + 1))) x = fnd (psOf ls) x) := by show _ = _; rw [← HE.out]; exact (fnd_no x hs he).symm
        have hb1 : (s.page == x) = false := by simpa using he
        clear hs hc he HE
        go_wp2
        go_roundw
        case rel => exact ⟨k + 1, by omega, by go_num, HV, FB⟩
        case measure => simp [intOf]; omega
    · have HV : Hid (fnd (psOf ls) x = none) := by
        show _ = _
        rw [← HE.out, List.drop_of_length_le (by have := HN.out; omega)]; rfl
      obtain ⟨hq, ff⟩ := fin7 (HZ.out _ F) (.int .i64 0) (.int .i64 0) (.int .i64 0) (.string ⟨#[]⟩) (.slice none 0 0) (.slice none 0 0) (.slice none 0 0)
      obtain ⟨⟨s0, s1, s2, s3, s4, s5, s6⟩, sz⟩ := node_cells (HZ.out _ F)
      have y0 := sz 0; have y1 := sz 1; have y2 := sz 2; have y3 := sz 3; have y4 := sz 4; have y5 := sz 5; have y6 := sz 6
      have fff := (f0.seq' F).trans ff (S := fun _ => False) (fun i hi e => by omega)
      clear sz HE
      go_wp2
      generalize (((((((wr.setCell ⟨w.heap.size, 0, none⟩ (.int .i64 0)).setCell ⟨w.heap.size, 1, none⟩ (.int .i64 0)).setCell ⟨w.heap.size, 2, none⟩ (.int .i64 0)).setCell ⟨w.heap.size, 3, none⟩ (.string ⟨#[]⟩)).setCell ⟨w.heap.size, 4, none⟩ (.slice none 0 0)).setCell ⟨w.heap.size, 5, none⟩ (.slice none 0 0)).setCell ⟨w.heap.size, 6, none⟩ (.slice none 0 0)) = Wf at hq fff ⊢
      obtain ⟨⟨g0, g1, g2, g3, g4, g5, g6⟩, _⟩ := node_cells hq
      exact bodyPost_ret (v := .tuple #[.agg #[.int .i64 0, .int .i64 0, .int .i64 0, .string ⟨#[]⟩, .slice none 0 0, .slice none 0 0, .slice none 0 0], .bool false]) (by simp [results, Tryz.results7, go_sem, g0, g1, g2, g3, g4, g5, g6]) rfl (fd_nil HV.out fff)
end Go.Proofs.YtlgceleelhppdaaGreat
