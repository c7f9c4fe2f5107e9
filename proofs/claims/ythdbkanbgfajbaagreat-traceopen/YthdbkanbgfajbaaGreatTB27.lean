
/- TcLaw. -/
import Derived.Test.YthdbkanbgfajbaaGreatTB26
/- What the statements ask of a trace ahead: whether it is large; the small cases. -/
namespace Go.Proofs.YthdbkanbgfajbaaGreat
open Go.RowKit

def totL (l : List Sn) : Nat := (l.map fun s => s.ans.length + s.H.length).sum
theorem totL_step {l : List Sn} {k : Nat} {s : Sn} (h : l[k]? = some s) : totL (l.take (k + 1)) = totL (l.take k) + s.ans.length + s.H.length := by
  rw [take_one_sn h]; unfold totL; rw [List.map_append, List.sum_append]; simp; omega
theorem totL_mem {l : List Sn} {s : Sn} (h : s ∈ l) : s.ans.length + s.H.length ≤ totL l := by
  unfold totL
  induction l with
  | nil => cases h
  | cons t l ih =>
    rw [List.map_cons, List.sum_cons]
    rcases List.mem_cons.1 h with rfl | h
    · omega
    · have := ih h; omega
def LgO (w : World) (l : List Sn) (e : Ending) (w' : World) : Prop := ∃ b, e = .returned (.bool b) ∧ (b = false → l.length ≤ 300 ∧ totL l ≤ 2000) ∧ Fr (fun _ => False) w w'
set_option maxRecDepth 100000 in
set_option maxHeartbeats 4000000 in
theorem large_any {B : Nat} (a : Option Addr) (n c : Nat) (l : List Sn) (hn : n = l.length) (hz : ∀ s ∈ l, s.ans.length * 72 ≤ reachBytes ∧ s.H.length * 80 ≤ reachBytes) (w : World) (h : Sns w B a c l) :
    Calls Tryz.prog 6 #[.slice a n c] w (LgO w l) := by
  have hle : n ≤ c := by rw [hn]; exact h.le
  have hmx := h.max
  have HS : Hid (∀ W, Fr (fun _ => False) w W → Sns W B a c l) := fun W f => h.same f
  have HE : Hid (∀ s ∈ l, s.ans.length ≤ 2000000000000 ∧ s.H.length ≤ 2000000000000) := fun s hs => by
    obtain ⟨h1, h2⟩ := hz s hs
    unfold reachBytes at h1 h2
    omega
  have HN : Hid (n = l.length) := hn
  clear h hn hz
  by_cases h300 : n ≤ 300
  · go_enter Tryz.func6, Tryz.ntmps6
    go_wp2
    go_loopw [3, 8] (fun v i wr => ∃ k t : Nat, k ≤ n ∧ i = .int .i64 k ∧ v = .int .i64 t ∧ t ≤ k * 4000000000000 ∧ Hid (t = totL (l.take k)) ∧ Hid (Fr (fun _ => False) w wr)) (fun _ i _ => n - (intOf i).toNat)
    case atStart => exact ⟨0, 0, by omega, rfl, rfl, by omega, rfl, Fr.refl _ _⟩
    case round =>
      obtain ⟨k, t, hk, rfl, rfl, ht, HT, HF⟩ := hrel
      by_cases hlt : k < n
      · obtain ⟨s, hsk⟩ : ∃ s, l[k]? = some s := ⟨_, List.getElem?_eq_getElem (by have := HN.out; omega)⟩
        obtain ⟨g, o, rfl, hgB, hgw, hcc⟩ := (HS.out _ HF.out).some (by have := HN.out; omega)
        obtain ⟨c0, c1, c2, c3, c4, c5, c6, c7, c8, c9, c10, c11⟩ := sn_range (hcc k s hsk)
        obtain ⟨e1, e2⟩ := HE.out s (List.mem_of_getElem? hsk)
        have hki : (k : Int) < (n : Int) := by omega
        have HT2 : Hid (t + s.ans.length + s.H.length = totL (l.take (k + 1))) := by show _ = _; rw [totL_step hsk, HT.out]
        clear hcc hsk HT
        have HF2 : Hid (Fr (fun _ => False) w (wr.alloc (.cells (snC s) 39))) := HF.out.seq' (Fr.box _ _)
        unfold snC at HF2
        generalize s.ans.length = na at *
        generalize s.H.length = nh at *
        go_wp2
        go_roundw
        case rel => exact ⟨k + 1, t + na + nh, by omega, by go_num, by go_num, by omega, HT2, HF2⟩
        case measure => simp [intOf]; omega
      · obtain rfl : k = n := by omega
        have HT2 : Hid (t = totL l) := by have := HT.out; rwa [HN.out, List.take_length] at this
        have HN2 : Hid (l.length ≤ 300) := by have := HN.out; show _ ≤ _; omega
        clear HT
        have HFIN : Hid (LgO w l (.returned (.bool (decide ((300 : Int) < (k : Int)) || decide ((2000 : Int) < (t : Int))))) wr) := ⟨_, rfl, fun h => by
          rw [Bool.or_eq_false_iff, decide_eq_false_iff_not, decide_eq_false_iff_not] at h
          exact ⟨HN2.out, by have := HT2.out; omega⟩, HF.out⟩
        go_wp2
        go_ret
        exact HFIN.out
  · go_enter Tryz.func6, Tryz.ntmps6
    go_wp2
    go_loopw [3, 8] (fun v i wr => ∃ (k : Nat) (t : Int), k ≤ n ∧ i = .int .i64 k ∧ v = .int .i64 t ∧ Hid (Fr (fun _ => False) w wr)) (fun _ i _ => n - (intOf i).toNat)
    case atStart => exact ⟨0, 0, by omega, rfl, rfl, Fr.refl _ _⟩
    case round =>
      obtain ⟨k, t, hk, rfl, rfl, HF⟩ := hrel
      by_cases hlt : k < n
      · obtain ⟨s, hsk⟩ : ∃ s, l[k]? = some s := ⟨_, List.getElem?_eq_getElem (by have := HN.out; omega)⟩
        obtain ⟨g, o, rfl, hgB, hgw, hcc⟩ := (HS.out _ HF.out).some (by have := HN.out; omega)
        obtain ⟨c0, c1, c2, c3, c4, c5, c6, c7, c8, c9, c10, c11⟩ := sn_range (hcc k s hsk)
        obtain ⟨e1, e2⟩ := HE.out s (List.mem_of_getElem? hsk)
        have hki : (k : Int) < (n : Int) := by omega
        clear hcc hsk
        have HF2 : Hid (Fr (fun _ => False) w (wr.alloc (.cells (snC s) 39))) := HF.out.seq' (Fr.box _ _)
        unfold snC at HF2
        generalize s.ans.length = na at *
        generalize s.H.length = nh at *
        go_wp2
        go_roundw
        case rel => exact ⟨k + 1, _, by omega, by go_num, rfl, HF2⟩
        case measure => simp [intOf]; omega
      · obtain rfl : k = n := by omega
        have h301 : (300 : Int) < (k : Int) := by omega
        have HFIN : Hid (LgO w l (.returned (.bool true)) wr) := ⟨true, rfl, fun h => (by cases h), HF.out⟩
        go_wp2
        go_ret
        exact HFIN.out
theorem small_of {l : List Sn} (hw : ∀ s ∈ l, SnWf s) (h : l.length ≤ 300 ∧ totL l ≤ 2000) : Small l := ⟨hw, h.1, fun s hs => by have := totL_mem hs; have := h.2; omega⟩
theorem Sns.take {w : World} {B : Nat} {a : Option Addr} {c : Nat} {l : List Sn} (h : Sns w B a c l) (n : Nat) : Sns w B a c (l.take n) := by
  refine ⟨by have := h.le; rw [List.length_take]; omega, h.max, ?_, fun s hs => h.ins s (List.mem_of_mem_take hs)⟩
  rcases h.at_ with h0 | ⟨b, off, e, hb, hw, hc⟩
  · exact .inl (by rw [h0]; simp)
  · refine .inr ⟨b, off, e, hb, hw, fun i s hs => hc i s ?_⟩
    rw [List.getElem?_take] at hs
    split at hs
    · exact hs
    · cases hs
end Go.Proofs.YthdbkanbgfajbaaGreat
