
/- What the reader's node tells. -/
import Derived.Test.YtcmkpmilnplhmaaPgBd
namespace Go.Proofs.Ytcmkpmilnplhmaa
open Go.RowKit Crcm

/-- The entries that are read, so many at most, until one fails. -/
def entL (leaf : Bool) : Nat → Nd × RF → Nd × RF
  | 0, x => x
  | c + 1, x =>
    if leaf = true then
      (if (textF (textF x.2 16).2 32).2.2 = true then ({ x.1 with keys := x.1.keys ++ [(textF x.2 16).1], vals := x.1.vals ++ [(textF (textF x.2 16).2 32).1] }, (textF (textF x.2 16).2 32).2)
       else entL leaf c ({ x.1 with keys := x.1.keys ++ [(textF x.2 16).1], vals := x.1.vals ++ [(textF (textF x.2 16).2 32).1] }, (textF (textF x.2 16).2 32).2))
    else
      (if (numF (textF x.2 16).2 4).2.2 = true then ({ x.1 with keys := x.1.keys ++ [(textF x.2 16).1], kids := x.1.kids ++ [(numF (textF x.2 16).2 4).1] }, (numF (textF x.2 16).2 4).2)
       else entL leaf c ({ x.1 with keys := x.1.keys ++ [(textF x.2 16).1], kids := x.1.kids ++ [(numF (textF x.2 16).2 4).1] }, (numF (textF x.2 16).2 4).2))
/-- What stands ahead of the entries: the node so far, how many are said to come, the state behind. -/
def headF (s : RF) : Nd × Int × RF :=
  (⟨(numF s 1).1, (numF (numF s 1).2 8).1, (numF (numF (numF s 1).2 8).2 4).1, (textF (numF (numF (numF (numF s 1).2 8).2 4).2 2).2 16).1, [], [], []⟩, (numF (numF (numF (numF s 1).2 8).2 4).2 2).1, (textF (numF (numF (numF (numF s 1).2 8).2 4).2 2).2 16).2)
def nodeF (s : RF) : Nd × RF :=
  if (headF s).1.lev = 0 then entL true (headF s).2.1.toNat ((headF s).1, (headF s).2.2)
  else entL false (headF s).2.1.toNat ({ (headF s).1 with kids := [(numF (headF s).2.2 4).1] }, (numF (headF s).2.2 4).2)

theorem strOf_size' (l : List Nat) : (strOf l).size = l.length := by rw [Lib.size_eq]; simp [strOf]
theorem textF_size (s : RF) (m : Int) (h : octs s.1.1) : (textF s m).1.size ≤ 65535 := by
  have hv := val2_lt h
  show (strOf (textS s.1 m).1).size ≤ _
  rw [strOf_size']
  unfold textS
  repeat' split
  all_goals simp
  all_goals omega
theorem num2_le (s : RF) (h : octs s.1.1) : 0 ≤ (numF s 2).1 ∧ (numF s 2).1 ≤ 65535 := by
  have hv := val2_lt h
  show 0 ≤ (numS s.1 2).1 ∧ (numS s.1 2).1 ≤ _
  unfold numS
  repeat' split
  all_goals (first | omega | (have e2 : (2 : Int).toNat = 2 := rfl); rw [e2]; omega)
/-- A node whose texts are short. -/
structure Short (n : Nd) : Prop where
  high : n.high.size ≤ 65535
  keys : ∀ s ∈ n.keys, s.size ≤ 65535
  vals : ∀ s ∈ n.vals, s.size ≤ 65535
theorem mem_snoc {l : List ByteArray} {x : ByteArray} {m : Nat} (h : ∀ s ∈ l, s.size ≤ m) (hx : x.size ≤ m) : ∀ s ∈ l ++ [x], s.size ≤ m := fun s hs => by
  rcases List.mem_append.mp hs with e | e
  · exact h s e
  · rw [List.mem_singleton.1 e]; exact hx
theorem Has.strs {w : World} {v : Value} {l : List ByteArray} (h : Has w 1 v l.length (strCells l)) (ht : ∀ s ∈ l, s.size ≤ 65535) : ∃ a c, v = .slice a l.length c ∧ Strs w a c l := by
  have hs : ∀ s ∈ l, s.size ≤ maxLen := fun s hm => by have := ht s hm; unfold maxLen; omega
  rcases h.2 with ⟨rfl, h0⟩ | ⟨g, cap, rfl, hg, h1, h2, h3, h4⟩
  · have : l = [] := List.eq_nil_of_length_eq_zero h0
    subst this
    exact ⟨none, 0, rfl, by simp, by omega, hs, .inl rfl⟩
  · refine ⟨_, cap, rfl, h1, by unfold maxLen at h2; omega, hs, .inr ⟨g, 0, rfl, hg, fun i hi => ?_⟩⟩
    exact h4 i _ (by simp [strCells, List.getD_eq_getElem?_getD, hi])
theorem Has.ints {w : World} {v : Value} {l : List Int} (h : Has w 1 v l.length (intCells l)) : ∃ a c, v = .slice a l.length c ∧ Ints w a c l := by
  rcases h.2 with ⟨rfl, h0⟩ | ⟨g, cap, rfl, hg, h1, h2, h3, h4⟩
  · have : l = [] := List.eq_nil_of_length_eq_zero h0
    subst this
    exact ⟨none, 0, rfl, by simp, by omega, .inl rfl⟩
  · refine ⟨_, cap, rfl, h1, by unfold maxLen at h2; omega, .inr ⟨g, 0, rfl, hg, fun i hi => ?_⟩⟩
    exact h4 i _ (by simp [intCells, List.getD_eq_getElem?_getD, hi])
theorem Bd.nod {W0 w : World} {nk qb rb : Nat} {a : Option Addr} {cap : Nat} {s : RF} {n : Nd} {kv vv iv : Value} (h : Bd W0 w nk qb rb a cap s n kv vv iv) (sh : Short n) (hk : n.keys.length ≤ 100000) (hv : n.vals.length ≤ 100000) (hi : n.kids.length ≤ 100000) :
    ∃ p : Pt, kv = .slice p.k n.keys.length p.kc ∧ vv = .slice p.v n.vals.length p.vc ∧ iv = .slice p.i n.kids.length p.ic ∧ Nod w n p := by
  obtain ⟨ak, ck, e1, s1⟩ := h.keys.strs sh.keys
  obtain ⟨av, cv, e2, s2⟩ := h.vals.strs sh.vals
  obtain ⟨ai, ci, e3, s3⟩ := h.kids.ints
  exact ⟨⟨ak, ck, av, cv, ai, ci⟩, e1, e2, e3, s1, s2, s3, by have := sh.high; omega, (fun s hs => by have := sh.keys s hs; omega), (fun s hs => by have := sh.vals s hs; omega), by omega, by omega, by omega⟩
/-- The beginning. -/
theorem Bd.start (w : World) (qb rb : Nat) (a : Option Addr) (cap : Nat) (s : RF) (h : Rr w qb rb a cap s) (ha : ∀ b off sp, a = some ⟨b, off, sp⟩ → b < w.heap.size) :
    Bd w ((w.alloc (.cells #[.int .i64 0, .int .i64 0, .int .i64 0, .string ⟨#[]⟩, .slice none 0 0, .slice none 0 0, .slice none 0 0] 83)).alloc (.cells #[.int .i64 0, .int .i64 0, .int .i64 0, .string ⟨#[]⟩, .slice none 0 0, .slice none 0 0, .slice none 0 0] 83)) (w.heap.size + 1) qb rb a cap s ⟨0, 0, 0, ⟨#[]⟩, [], [], []⟩ (.slice none 0 0) (.slice none 0 0) (.slice none 0 0) := by
  have f : Fr (fun _ => False) w ((w.alloc (.cells #[.int .i64 0, .int .i64 0, .int .i64 0, .string ⟨#[]⟩, .slice none 0 0, .slice none 0 0, .slice none 0 0] 83)).alloc (.cells #[.int .i64 0, .int .i64 0, .int .i64 0, .string ⟨#[]⟩, .slice none 0 0, .slice none 0 0, .slice none 0 0] 83)) := ((Fr.refl _ w).alloc _).alloc _
  refine ⟨?_, by omega, Has.nil _ _, Has.nil _ _, Has.nil _ _, (fun g e => by cases e), (fun g e => by cases e), (fun g e => by cases e), (fun g e => by cases e), (fun g e => by cases e), (fun g e => by cases e), h.same f, lt_of_block h.box, lt_of_block h.rd.box, ha, f.mono (fun _ _ e => e.elim), ?_⟩
  · have := heap_alloc_new (w.alloc (.cells #[.int .i64 0, .int .i64 0, .int .i64 0, .string ⟨#[]⟩, .slice none 0 0, .slice none 0 0, .slice none 0 0] 83)) (.cells #[.int .i64 0, .int .i64 0, .int .i64 0, .string ⟨#[]⟩, .slice none 0 0, .slice none 0 0, .slice none 0 0] 83)
    simpa using this
  · rw [Below.heap_alloc _ _ _ (by simp)]; exact heap_alloc_new w _
end Go.Proofs.Ytcmkpmilnplhmaa
