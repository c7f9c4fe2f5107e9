
/- More on frames, and rows of bytes that are a slice's own. -/
import Derived.Test.YtkmjmbpdmgoknaaHas
import Derived.Laws.IdiomStrings
namespace Go.Proofs.Ytkmjmbpdmgoknaa
open Go.RowKit

theorem Fr.false_trans {a b c : World} (h : Fr (fun _ => False) a b) (k : Fr (fun _ => False) b c) : Fr (fun _ => False) a c := h.trans k (fun _ _ f => f)
/-- What writes only blocks that are new to 'a' leaves all of 'a'. -/
theorem Fr.above {a b c : World} {S : Nat → Prop} (h : Fr (fun _ => False) a b) (k : Fr S b c) (hS : ∀ i, S i → a.heap.size ≤ i) : Fr (fun _ => False) a c :=
  h.trans k (fun i hi s => by have := hS i s; omega)
/-- What is left is left of more too. -/
theorem Fr.any {S : Nat → Prop} {a b : World} (h : Fr (fun _ => False) a b) : Fr S a b := h.mono (fun _ _ f => f.elim)
theorem Fr.block_eq {S : Nat → Prop} {w w' : World} (f : Fr S w w') {k : Nat} {o : Obj} (h : w.heap[k]? = some o) (hn : ¬ S k) : w'.heap[k]? = some o := by
  rw [f.block k (lt_of_block h) hn]; exact h
theorem octs_app {l m : List Nat} (hl : octs l) (hm : octs m) : octs (l ++ m) := fun x hx => by
  rcases List.mem_append.mp hx with h | h
  · exact hl x h
  · exact hm x h
theorem Row.fr {S : Nat → Prop} {w w' : World} {a : Option Addr} {cap : Nat} {l : List Nat} (h : Row w a cap l) (f : Fr S w w') (hn : ∀ b off, a = some ⟨b, off, none⟩ → l ≠ [] → ¬ S b) : Row w' a cap l := by
  refine ⟨h.le, h.max, h.small, h.byte, ?_⟩
  by_cases hl : l = []
  · exact .inl hl
  · rcases h.at_ with h0 | ⟨b, off, rfl, hb, hc⟩
    · exact .inl h0
    · exact .inr ⟨b, off, rfl, Nat.lt_of_lt_of_le hb f.size, fun i hi => (f.cell hb (hn _ _ rfl hl)).trans (hc i hi)⟩
theorem Row.same {w w' : World} {a : Option Addr} {cap : Nat} {l : List Nat} (h : Row w a cap l) (f : Fr (fun _ => False) w w') : Row w' a cap l := h.fr f (fun _ _ _ _ f => f)
theorem Row.lt {w : World} {a : Option Addr} {cap : Nat} {l : List Nat} (h : Row w a cap l) {b off : Nat} (ha : a = some ⟨b, off, none⟩) (hl : l ≠ []) : b < w.heap.size := by
  rcases h.at_ with h0 | ⟨b', off', h1, hb, _⟩
  · exact absurd h0 hl
  · rw [ha] at h1; simp at h1; omega
/-- Bytes that are a slice's own are a row. -/
theorem Has.bytes {w : World} {a : Option Addr} {n c : Nat} {l : List Nat} (h : Has w 1 (.slice a n c) n (cellsOf l)) (hl : octs l) (hs : l.length ≤ 140737488355328) : Row w a c l := by
  have hn : n = l.length := by have := h.1; rw [cellsOf_length] at this; omega
  subst hn
  rcases h.2 with ⟨h1, h0⟩ | ⟨g, cap, hv, hg, hnc, hcm, hth, hra⟩
  · simp only [Value.slice.injEq] at h1
    obtain ⟨rfl, _, rfl⟩ := h1
    have : l = [] := List.eq_nil_of_length_eq_zero h0
    subst this
    exact ⟨Nat.le_refl _, by omega, hs, hl, .inl rfl⟩
  · simp only [Value.slice.injEq, true_and] at hv
    obtain ⟨rfl, rfl⟩ := hv
    exact ⟨hnc, by unfold maxLen at hcm; omega, hs, hl, .inr ⟨g, 0, rfl, hg, fun i hi => by
      have := hra i _ (cellsOf_get l i hi)
      simpa using this⟩⟩
theorem Row.from {w : World} {a : Option Addr} {c : Nat} {l : List Nat} (h : Row w a c l) : From w a (cellsOf l) := by
  rcases h.at_ with h0 | ⟨b, off, rfl, _, hc⟩
  · exact .inl (by rw [h0]; rfl)
  · refine .inr ⟨b, off, rfl, fun j u hu => ?_⟩
    have hj : j < l.length := by have := (List.getElem?_eq_some_iff.1 hu).1; rwa [cellsOf_length] at this
    rw [cellsOf_get l j hj] at hu
    rw [hc j hj]; exact hu

/-- Bytes as a string. -/
def strOf (l : List Nat) : ByteArray := ⟨(l.map fun (x : Nat) => UInt8.ofNat x).toArray⟩
theorem strOf_toList (l : List Nat) : (strOf l).toList = l.map fun (x : Nat) => UInt8.ofNat x := by
  rw [ByteArray.toList_eq]; simp [strOf]
theorem strOf_size (l : List Nat) : (strOf l).size = l.length := by simp [strOf, ByteArray.size]
theorem ofNat_inj {l m : List Nat} (hl : octs l) (hm : octs m) (h : (l.map fun (x : Nat) => UInt8.ofNat x) = m.map fun (x : Nat) => UInt8.ofNat x) : l = m := by
  induction l generalizing m with
  | nil => cases m with
    | nil => rfl
    | cons => simp at h
  | cons x l ih => cases m with
    | nil => simp at h
    | cons y m =>
      simp only [List.map_cons, List.cons.injEq] at h
      have hx := hl x (by simp)
      have hy := hm y (by simp)
      have e : x = y := by
        have := congrArg UInt8.toNat h.1
        simpa [Nat.mod_eq_of_lt hx, Nat.mod_eq_of_lt hy] using this
      rw [e, ih (fun z hz => hl z (by simp [hz])) (fun z hz => hm z (by simp [hz])) h.2]
theorem str_eq {l m : List Nat} (hl : octs l) (hm : octs m) : ((strOf l).toList == (strOf m).toList) = decide (l = m) := by
  rw [strOf_toList, strOf_toList, Bool.eq_iff_iff]
  simp only [beq_iff_eq, decide_eq_true_eq]
  exact ⟨ofNat_inj hl hm, fun h => by rw [h]⟩
theorem run_str {P : Program} {w : World} {src dst e : TypeId} {a : Option Addr} {cap : Nat} {l : List Nat} (hs : P.underlying src = some (.slice e)) (he : P.underlying e = some (.int .u8)) (hd : P.underlying dst = some .string)
    (hr : Row w a cap l) (n : Nat) (hn : n = l.length) : (convert src dst (.slice a n cap)).run P w = .ok (.string (strOf l)) w := by
  subst hn
  rcases hr.at_ with h0 | ⟨b, off, rfl, _, hc⟩
  · subst h0
    rw [run_convert_bytes_string w src dst e a _ cap hs he hd]
    cases a with
    | none => simp [Conv.bytesToString, strOf]; rfl
    | some x => exact run_bytesToString w x 0 cap [] (by simp [loadCells, loadCellsFrom])
  · have hlen : (l.map fun (x : Nat) => UInt8.ofNat x).length = l.length := by simp
    have := run_convert_bytes_back (P := P) w src dst e ⟨b, off, none⟩ cap (l.map fun (x : Nat) => UInt8.ofNat x) hs he hd (fun j hj => by
      rw [hlen] at hj
      rw [Addr.add_lit, hc j hj]
      have hb := hr.byte _ (List.getElem_mem hj)
      simp [List.getD_eq_getElem?_getD, hj, Nat.mod_eq_of_lt hb])
    rw [hlen] at this
    exact this
end Go.Proofs.Ytkmjmbpdmgoknaa
