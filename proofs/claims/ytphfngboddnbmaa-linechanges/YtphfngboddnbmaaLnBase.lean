
/- Marks and timelines in memory; which numbers and timelines are right, in the program and in the document. -/
import Derived.Test.YtphfngboddnbmaaHas
import Derived.Test.YtphfngboddnbmaaLnPure
import Derived.Deep.DeepCutAuto
namespace Go.Proofs.Ytphfngboddnbmaa
open Go.RowKit
open Go.Proofs.Ytphfngboddnbmaa.Ln

theorem ret_bool {x y : Bool} (h : x = y) : Ending.returned (.bool x) = .returned (.bool y) := by rw [h]
theorem Fr.seq' {a b c : World} (h : Fr (fun _ => False) a b) (k : Fr (fun _ => False) b c) : Fr (fun _ => False) a c := h.trans k (fun _ _ f => f)
theorem Fr.box (w : World) (o : Obj) : Fr (fun _ => False) w (w.alloc o) := (Fr.refl _ w).alloc o
/-- A struct of two cells. -/
def Two (w : World) (b : Nat) (t : TypeId) (x y : Value) : Prop := w.heap[b]? = some (.cells #[x, y] t (0, 0))
theorem Two.cells {w : World} {b : Nat} {t : TypeId} {x y : Value} (h : Two w b t x y) : w.cell? ⟨b, 0, none⟩ = some x ∧ w.cell? ⟨b, 1, none⟩ = some y ∧ w.frozen? ⟨b, 0, none⟩ = false ∧ w.frozen? ⟨b, 1, none⟩ = false := by
  unfold Two at h
  refine ⟨?_, ?_, ?_, ?_⟩ <;> simp [World.cell?, World.frozen?, h]
theorem Two.lt {w : World} {b : Nat} {t : TypeId} {x y : Value} (h : Two w b t x y) : b < w.heap.size := (Array.getElem?_eq_some_iff.1 h).1
theorem Two.fr {S : Nat → Prop} {w w' : World} {b : Nat} {t : TypeId} {x y : Value} (h : Two w b t x y) (f : Fr S w w') (hn : ¬ S b) : Two w' b t x y := by
  unfold Two; rw [f.block b h.lt hn]; exact h
theorem Two.new (w : World) (t : TypeId) (x y : Value) : Two (w.alloc (.cells #[x, y] t)) w.heap.size t x y := heap_alloc_new w _
theorem Two.set0 {w : World} {b : Nat} {t : TypeId} {x y : Value} (h : Two w b t x y) (u : Value) : Two (w.setCell ⟨b, 0, none⟩ u) b t u y := by
  have hlt := h.lt
  have h' : w.heap[b] = .cells #[x, y] t (0, 0) := by unfold Two at h; simpa [Array.getElem?_eq_getElem hlt] using h
  show (w.heap.modify b _)[b]? = _
  rw [Array.getElem?_eq_getElem (by rw [Array.size_modify]; exact hlt), Array.getElem_modify_self, h']
  rfl
theorem Two.set1 {w : World} {b : Nat} {t : TypeId} {x y : Value} (h : Two w b t x y) (u : Value) : Two (w.setCell ⟨b, 1, none⟩ u) b t x u := by
  have hlt := h.lt
  have h' : w.heap[b] = .cells #[x, y] t (0, 0) := by unfold Two at h; simpa [Array.getElem?_eq_getElem hlt] using h
  show (w.heap.modify b _)[b]? = _
  rw [Array.getElem?_eq_getElem (by rw [Array.size_modify]; exact hlt), Array.getElem_modify_self, h']
  rfl
theorem Two.fin {w : World} {b : Nat} {t : TypeId} {x y : Value} (h : Two w b t x y) (u v : Value) :
    Two ((w.setCell ⟨b, 0, none⟩ u).setCell ⟨b, 1, none⟩ v) b t u v ∧ Fr (fun i => i = b) w ((w.setCell ⟨b, 0, none⟩ u).setCell ⟨b, 1, none⟩ v) :=
  ⟨(h.set0 u).set1 v, ((Fr.refl (fun i => i = b) w).setCell (p := ⟨b, 0, none⟩) (fun _ => rfl) u).setCell (p := ⟨b, 1, none⟩) (fun _ => rfl) v⟩

/-- A mark's cells. -/
def mkC (m : Mk) : List Value := [.int .i64 m.1, .int .i64 m.2]
theorem mkC_length (m : Mk) : (mkC m).length = 2 := rfl
theorem mkC_one (m : Mk) : ∀ u ∈ mkC m, u.oneCell' = true := by
  intro u hu
  simp only [mkC, List.mem_cons, List.not_mem_nil, or_false] at hu
  rcases hu with h | h <;> (subst h; rfl)
theorem mkCs_one (ms : List Mk) : ∀ u ∈ ms.flatMap mkC, u.oneCell' = true := by
  intro u hu
  obtain ⟨m, _, h⟩ := List.mem_flatMap.1 hu
  exact mkC_one m u h
theorem mkCs_len (ms : List Mk) : (ms.flatMap mkC).length = ms.length * 2 := by
  induction ms with
  | nil => rfl
  | cons m l ih => rw [List.flatMap_cons, List.length_append, ih, mkC_length, List.length_cons]; omega
theorem mk_range {w : World} {b o : Nat} {m : Mk} (h : w.rangeAt b o (mkC m)) : w.cell? ⟨b, o, none⟩ = some (.int .i64 m.1) ∧ w.cell? ⟨b, o + 1, none⟩ = some (.int .i64 m.2) := ⟨h 0 _ rfl, h 1 _ rfl⟩
theorem infoMark : (Try.prog.info? 53).map (fun i => (i.zero, i.size, i.bytes)) = some (some (.agg #[.int .i64 0, .int .i64 0]), 2, 16) := by kernel_rfl
/-- A slice of marks as a walk sees it. -/
structure Mks (w : World) (a : Option Addr) (cap : Nat) (ms : List Mk) : Prop where
  le : ms.length ≤ cap
  max : cap ≤ 9223372036854775807
  at_ : ms = [] ∨ ∃ b off, a = some ⟨b, off, none⟩ ∧ b < w.heap.size ∧ ∀ (i : Nat) m, ms[i]? = some m → w.rangeAt b (off + i * 2) (mkC m)
theorem Mks.fr {S : Nat → Prop} {w w' : World} {a : Option Addr} {cap : Nat} {ms : List Mk} (h : Mks w a cap ms) (f : Fr S w w') (hn : ∀ b, b < w.heap.size → ¬ S b) : Mks w' a cap ms := by
  refine ⟨h.le, h.max, ?_⟩
  rcases h.at_ with h0 | ⟨b, off, rfl, hb, hc⟩
  · exact .inl h0
  · exact .inr ⟨b, off, rfl, Nat.lt_of_lt_of_le hb f.size, fun i r hr => range_fr (hc i r hr) f (hn b hb)⟩
theorem Mks.fr' {w w0 w' : World} {X : Nat} {a : Option Addr} {cap : Nat} {ms : List Mk} (h : Mks w a cap ms) (f0 : Fr (fun _ => False) w w0) (f : Fr (fun k => k = X) w0 w') (hX : w.heap.size ≤ X) : Mks w' a cap ms := h.fr (f0.trans f (fun i hi e => by omega) : Fr (fun _ => False) w w') (fun _ _ f => f)
theorem Mks.same {w w' : World} {a : Option Addr} {cap : Nat} {ms : List Mk} (h : Mks w a cap ms) (f : Fr (fun _ => False) w w') : Mks w' a cap ms := h.fr f (fun _ _ f => f)
theorem Mks.some {w : World} {a : Option Addr} {cap : Nat} {ms : List Mk} (h : Mks w a cap ms) (hn : 0 < ms.length) : ∃ b off, a = some ⟨b, off, none⟩ ∧ b < w.heap.size ∧ ∀ (i : Nat) m, ms[i]? = some m → w.rangeAt b (off + i * 2) (mkC m) := by
  rcases h.at_ with h0 | h
  · rw [h0] at hn; simp at hn
  · exact h
theorem Mks.nil (w : World) (a : Option Addr) : Mks w a 0 [] := ⟨Nat.le_refl _, by omega, .inl rfl⟩
theorem mks_range {w : World} {b off : Nat} {ms : List Mk} (h : ∀ (i : Nat) m, ms[i]? = some m → w.rangeAt b (off + i * 2) (mkC m)) : w.rangeAt b off (ms.flatMap mkC) := by
  induction ms generalizing off with
  | nil => intro j v hv; simp at hv
  | cons m l ih =>
    rw [List.flatMap_cons]
    have h0 := h 0 m rfl
    rw [Nat.zero_mul, Nat.add_zero] at h0
    refine range_join h0 ?_
    rw [mkC_length]
    refine ih (fun i x hx => ?_)
    have := h (i + 1) x (by simpa using hx)
    rwa [show off + (i + 1) * 2 = off + 2 + i * 2 by omega] at this
theorem Mks.from {w : World} {a : Option Addr} {cap : Nat} {ms : List Mk} (h : Mks w a cap ms) : From w a (ms.flatMap mkC) := by
  rcases h.at_ with h0 | ⟨b, off, rfl, hb, hc⟩
  · exact .inl (by rw [h0]; rfl)
  · exact .inr ⟨b, off, rfl, mks_range hc⟩
theorem Has.mks {w : World} {a : Option Addr} {n c : Nat} {ms : List Mk} (hn : n = ms.length) (h : Has w 2 (.slice a n c) n (ms.flatMap mkC)) : Mks w a c ms := by
  subst hn
  obtain ⟨a', c', he, h1, h2⟩ := h.slice
  simp only [Value.slice.injEq, true_and] at he
  obtain ⟨rfl, rfl⟩ := he
  refine ⟨h1, by unfold maxLen at h2; exact h2, ?_⟩
  by_cases h0 : ms.length = 0
  · exact .inl (List.length_eq_zero_iff.1 h0)
  · obtain ⟨g, cap, hv, hg, _, _, _, hr⟩ := h.form (by omega)
    simp only [Value.slice.injEq, true_and] at hv
    obtain ⟨rfl, rfl⟩ := hv
    refine .inr ⟨g, 0, rfl, hg, fun i m hm => ?_⟩
    have key : ∀ (l : List Mk) (o i : Nat) (m : Mk), l[i]? = .some m → w.rangeAt g o (l.flatMap mkC) → w.rangeAt g (o + i * 2) (mkC m) := by
      intro l
      induction l with
      | nil => intro o i m h; simp at h
      | cons x l ih =>
        intro o i m h hr
        cases i with
        | zero =>
          simp at h; subst h
          rw [Nat.zero_mul, Nat.add_zero]
          exact fun j v hv => hr j v (by rw [List.flatMap_cons, List.getElem?_append_left (List.getElem?_eq_some_iff.1 hv).1]; exact hv)
        | succ i =>
          have := ih (o + 2) i m (by simpa using h) (fun j v hv => by
            have := hr (2 + j) v (by rw [List.flatMap_cons, List.getElem?_append_right (by rw [mkC_length]; omega), mkC_length, Nat.add_sub_cancel_left]; exact hv)
            rwa [← Nat.add_assoc] at this)
          rwa [show o + 2 + i * 2 = o + (i + 1) * 2 by omega] at this
    exact key ms 0 i m hm hr

theorem isNumber_any (x : Int) (w : World) : Calls Try.prog 28 #[.int .i64 x] w fun e w' => e = .returned (.bool (numB x)) ∧ w' = w := by
  by_cases h1 : 0 ≤ x
  · by_cases h2 : x ≤ 1099511627776
    · rw [show numB x = true by simp [numB, h1, h2]]
      go_enter Try.func28, Try.ntmps28
      go_wp2
      go_ret
      exact ⟨rfl, rfl⟩
    · rw [show numB x = false by simp [numB, h2]]
      go_enter Try.func28, Try.ntmps28
      go_wp2
      go_ret
      exact ⟨rfl, rfl⟩
  · rw [show numB x = false by simp [numB, h1]]
    have h2 : decide (0 ≤ x) = false := by simpa using h1
    go_enter Try.func28, Try.ntmps28
    go_wp2
    go_ret
    exact ⟨rfl, rfl⟩
theorem rin_any (x : Int) (w : World) : Calls Try.prog 30 #[.int .i64 x] w fun e w' => e = .returned (.bool (numB x)) ∧ w' = w := by
  by_cases h1 : 0 ≤ x
  · by_cases h2 : x ≤ 1099511627776
    · rw [show numB x = true by simp [numB, h1, h2]]
      go_enter Try.func30, Try.ntmps30
      go_wp2
      go_ret
      exact ⟨rfl, rfl⟩
    · rw [show numB x = false by simp [numB, h2]]
      go_enter Try.func30, Try.ntmps30
      go_wp2
      go_ret
      exact ⟨rfl, rfl⟩
  · rw [show numB x = false by simp [numB, h1]]
    have h2 : decide (0 ≤ x) = false := by simpa using h1
    go_enter Try.func30, Try.ntmps30
    go_wp2
    go_ret
    exact ⟨rfl, rfl⟩
theorem ris_drop {ms : List Mk} {k : Nat} {m : Mk} (h : ms[k]? = some m) (last : Int) (p : Mk) (f : Bool) : risB last p f (ms.drop k) = (okm last p f m && risB last m false (ms.drop (k + 1))) := by
  have hj := (List.getElem?_eq_some_iff.1 h).1
  rw [List.drop_eq_getElem_cons hj, (List.getElem?_eq_some_iff.1 h).2]
  rfl
end Go.Proofs.Ytphfngboddnbmaa
