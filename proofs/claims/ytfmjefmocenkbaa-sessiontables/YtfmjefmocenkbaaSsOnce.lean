
/- A table beside a row of numbers that were told. -/
import Derived.Test.YtfmjefmocenkbaaSsSes
namespace Go.Proofs.Ytfmjefmocenkbaa
open Go.RowKit

theorem has_nil (w : World) : Has w 1 (.slice none 0 0) ([] : List Int).length (([] : List Int).map zI) := Has.nil w 1
theorem app_has {w : World} {v : Value} {l : List Int} (x : Int) (h : Has w 1 v l.length (l.map zI)) (hl : l.length + 1 ≤ 1000000000) :
    ∃ a' c' w', (Builtin.append_ #[27, 27] 27 #[v, .slice (some ⟨w.heap.size, 0, none⟩) 1 1]).run Try.prog (w.alloc (.cells #[.int .i64 x] 3)) = .ok (.slice a' (l.length + 1) c') w' ∧ Has w' 1 (.slice a' (l.length + 1) c') (l ++ [x]).length ((l ++ [x]).map zI) ∧ Fr (fun k => v.ownBlock = some k) w w' ∧ ((Value.slice a' (l.length + 1) c').ownBlock = v.ownBlock ∨ (Value.slice a' (l.length + 1) c').ownBlock = some (w.heap.size + 1)) := by
  obtain ⟨i, hi, hi1, hi2, hi3⟩ : ∃ i, Try.prog.info? 3 = some i ∧ i.zero = some (.int .i64 0) ∧ i.size = 1 ∧ i.bytes = 8 := by
    have := infoI
    cases hh : Try.prog.info? 3 with
    | none => rw [hh] at this; cases this
    | some i =>
      rw [hh] at this
      simp only [Option.map_some, Option.some.injEq, Prod.mk.injEq] at this
      exact ⟨i, rfl, this.1, this.2.1, this.2.2⟩
  have fb := Fr.box w (.cells #[.int .i64 x] 3)
  have hc : (w.alloc (.cells #[.int .i64 x] 3)).cell? ⟨w.heap.size, 0, none⟩ = some (.int .i64 x) := one_cell_n (heap_alloc_new w _)
  have h' := h.fr fb (fun _ _ f => f)
  obtain ⟨v', w', hrun, h2, h3, h4⟩ := run_append_has (P := Try.prog) (w.alloc (.cells #[.int .i64 x] 3)) 27 27 27 3 3 i (.int .i64 0) 1 8 Try.underlying27 Try.underlying27 hi hi1 hi2 hi3 rfl (by omega) v l.length (l.map zI) h' (some ⟨w.heap.size, 0, none⟩) 1 1 [.int .i64 x] rfl
    (.inr ⟨w.heap.size, 0, rfl, fun j u hu => by
      cases j with
      | zero => simp at hu; subst hu; simp [hc]
      | succ j => simp at hu⟩) (fun u hu => by simp at hu; subst hu; rfl) (by unfold maxLen; omega) (by omega)
  obtain ⟨a', c', rfl, _⟩ := h2.slice
  refine ⟨a', c', w', hrun, ?_, (fb.mono (T := fun k => v.ownBlock = some k) (fun i hi e => e.elim)).trans h3 (fun i hi e => e.1), ?_⟩
  · have e1 : l.map zI ++ [.int .i64 x] = (l ++ [x]).map zI := by simp [zI]
    rw [e1] at h2
    simpa using h2
  · rcases h4 with e | e
    · exact .inl e
    · right; rw [e]; simp
theorem has_cell {w : World} {a : Option Addr} {c : Nat} {l : List Int} (h : Has w 1 (.slice a l.length c) l.length (l.map zI)) (hn : 0 < l.length) : ∃ b, a = some ⟨b, 0, none⟩ ∧ ∀ (i : Nat) x, l[i]? = some x → w.cell? ⟨b, i, none⟩ = some (.int .i64 x) := by
  obtain ⟨g, cap, hv, _, _, _, _, h4⟩ := h.form hn
  simp only [Value.slice.injEq] at hv
  obtain ⟨rfl, _, rfl⟩ := hv
  refine ⟨g, rfl, fun i x hx => ?_⟩
  have := h4 i (zI x) (by rw [List.getElem?_map, hx]; rfl)
  rwa [Nat.zero_add] at this
theorem has_bound {w : World} {a : Option Addr} {c : Nat} {l : List Int} (h : Has w 1 (.slice a l.length c) l.length (l.map zI)) : l.length ≤ c ∧ c ≤ 9223372036854775807 := by
  obtain ⟨a', c', hv, h1, h2⟩ := h.slice
  simp only [Value.slice.injEq] at hv
  obtain ⟨_, _, rfl⟩ := hv
  unfold maxLen at h2
  omega
theorem Ir.keep {T : Nat → Prop} {w w' : World} {B cap : Nat} {a : Option Addr} {ts : List Int} (h : Ir w B a cap ts) (f : Fr T w w') (hT : ∀ b : Nat, a = Option.some ⟨b, 0, Option.none⟩ → ¬ T b) : Ir w' B a cap ts := by
  refine ⟨h.le, h.max, ?_⟩
  rcases h.at_ with h0 | ⟨b, rfl, hb, hl, hc⟩
  · exact .inl h0
  · exact .inr ⟨b, rfl, hb, Nat.lt_of_lt_of_le hl f.size, fun i x hx => (f.cell (p := ⟨b, _, none⟩) hl (hT b rfl)).trans (hc i x hx)⟩
/-- A table, and what was told of it. -/
structure On (w wr : World) (S : Nat → Prop) (tb : Nat) (L : Wt) (D : List Int) (tv : Value) (k : Nat) : Prop where
  tb : Tb wr S tb L D
  len : L.length ≤ 1024
  sum : L.length + D.length ≤ k
  dis : ∀ p ∈ L, p.1 ∉ D
  told : Has wr 1 tv D.length (D.map zI)
  sep : ∀ g, tv.ownBlock = some g → ¬ S g ∧ w.heap.size ≤ g
  new : ∀ i, S i → w.heap.size ≤ i
  fr : Fr (fun _ => False) w wr
variable {w wr w' : World} {S : Nat → Prop} {tb : Nat} {L : Wt} {D : List Int} {tv : Value} {k : Nat}
theorem On.same (h : On w wr S tb L D tv k) (f : Fr (fun _ => False) wr w') : On w w' S tb L D tv k :=
  ⟨h.tb.same f, h.len, h.sum, h.dis, h.told.fr f (fun _ _ f => f), h.sep, h.new, h.fr.seq' f⟩
theorem On.more (h : On w wr S tb L D tv k) : On w wr S tb L D tv (k + 1) := ⟨h.tb, h.len, by have := h.sum; omega, h.dis, h.told, h.sep, h.new, h.fr⟩
theorem On.wait (h : On w wr S tb L D tv k) {r l : Int} (hw : WaO wr S tb L D r l w') : ∃ S', On w w' S' tb (waL L D r l) D tv (k + 1) := by
  obtain ⟨S', h1, h2, h3⟩ := hw
  have hlen : (waL L D r l).length ≤ L.length + 1 ∧ (waL L D r l).length ≤ 1024 := by
    have hL := h.len
    unfold waL
    split
    · rename_i he
      rw [ins_len]
      refine ⟨by omega, ?_⟩
      unfold waE at he
      split at he
      · split at he
        · split at he
          · cases he
          · omega
        · cases he
      · cases he
    · omega
  refine ⟨S', h2, hlen.2, by have := h.sum; omega, ?_, h.told.fr h3 (fun g hg hs => (h.sep g hg).1 hs), fun g hg => ⟨fun hs => ?_, (h.sep g hg).2⟩, fun i hi => ?_, h.fr.trans h3 (fun i hi hs => by have := h.new i hs; omega)⟩
  · intro p hp
    unfold waL at hp
    split at hp
    · rename_i he
      rcases List.mem_cons.1 ((ins_perm (r, l) L).mem_iff.1 hp) with rfl | hp
      · intro hd
        unfold waE at he
        split at he
        · split at he
          · rename_i hs
            unfold stN at hs
            split at hs
            · cases hs
            · cases hs
          · cases he
        · cases he
      · exact h.dis p hp
    · exact h.dis p hp
  · rcases h1 g hs with h4 | h4
    · exact (h.sep g hg).1 h4
    · have := h.told.lt hg; omega
  · rcases h1 i hi with h4 | h4
    · exact h.new i h4
    · have := h.fr.size; omega
theorem On.leave (h : On w wr S tb L D tv k) (ht : Tb w' S tb [] D) (f : Fr S wr w') : On w w' S tb [] D tv (k + 1) :=
  ⟨ht, by simp, by have := h.sum; simp; omega, (fun _ h => by cases h), h.told.fr f (fun g hg hs => (h.sep g hg).1 hs), h.sep, h.new, h.fr.trans f (fun i hi hs => by have := h.new i hs; omega)⟩
/-- In the midst of telling what settled. -/
structure Md (w wr : World) (S : Nat → Prop) (tb : Nat) (R : Wt) (D ts : List Int) (j : Nat) (tv : Value) (p : Option Addr) (q B : Nat) : Prop where
  tb : Tb wr S tb R (D ++ ts)
  told : Has wr 1 tv (D ++ ts.take j).length ((D ++ ts.take j).map zI)
  row : Ir wr B p q ts
  sep : ∀ g, tv.ownBlock = some g → ¬ S g ∧ w.heap.size ≤ g ∧ (ts ≠ [] → p ≠ some ⟨g, 0, none⟩)
  new : ∀ i, S i → w.heap.size ≤ i
  fr : Fr (fun _ => False) w wr
theorem Md.same {R : Wt} {ts : List Int} {j q B : Nat} {p : Option Addr} (h : Md w wr S tb R D ts j tv p q B) (f : Fr (fun _ => False) wr w') : Md w w' S tb R D ts j tv p q B :=
  ⟨h.tb.same f, h.told.fr f (fun _ _ f => f), h.row.fr f (fun _ _ _ f => f), h.sep, h.new, h.fr.seq' f⟩
theorem On.settle (h : On w wr S tb L D tv k) {c : Int} {p : Option Addr} {q : Nat} (hr : Ir w' wr.heap.size p q (tkR c L)) (ht : Tb w' S tb (rsL c L) (D ++ tkR c L)) (f : Fr S wr w') : Md w w' S tb (rsL c L) D (tkR c L) 0 tv p q wr.heap.size := by
  refine ⟨ht, ?_, hr, fun g hg => ⟨(h.sep g hg).1, (h.sep g hg).2, fun hne e => ?_⟩, h.new, h.fr.trans f (fun i hi hs => by have := h.new i hs; omega)⟩
  · rw [List.take_zero, List.append_nil]
    exact h.told.fr f (fun g hg hs => (h.sep g hg).1 hs)
  · have hlt := h.told.lt hg
    rcases hr.at_ with h0 | ⟨b, hb, hge, _⟩
    · exact hne h0
    · rw [hb] at e; simp only [Option.some.injEq, Addr.mk.injEq, and_true] at e; omega
theorem Md.tell {R : Wt} {ts : List Int} {j q B : Nat} {p : Option Addr} (h : Md w wr S tb R D ts j tv p q B) {x : Int} (hx : ts[j]? = some x) {v' : Value} (h1 : Has w' 1 v' ((D ++ ts.take j) ++ [x]).length (((D ++ ts.take j) ++ [x]).map zI)) (f : Fr (fun k => tv.ownBlock = some k) wr w') (hv : v'.ownBlock = tv.ownBlock ∨ v'.ownBlock = some (wr.heap.size + 1)) : Md w w' S tb R D ts (j + 1) v' p q B := by
  have htk : (D ++ ts.take j) ++ [x] = D ++ ts.take (j + 1) := by rw [List.append_assoc, List.take_add_one, hx]; rfl
  rw [htk] at h1
  have hne : ts ≠ [] := fun e => by rw [e] at hx; cases hx
  refine ⟨h.tb.fr f (fun i hi e => (h.sep i e).1 hi), h1, h.row.keep f (fun b hb e => (h.sep b e).2.2 hne hb), fun g hg => ?_, h.new, h.fr.trans f (fun i hi e => by have := (h.sep i e).2.1; omega)⟩
  rcases hv with e | e
  · rw [e] at hg; exact h.sep g hg
  · rw [e] at hg
    simp only [Option.some.injEq] at hg
    refine ⟨fun hs => by have := h.tb.lt g hs; omega, by have := h.fr.size; omega, fun _ e2 => ?_⟩
    rcases h.row.at_ with h0 | ⟨b, hb, _, hl, _⟩
    · exact hne h0
    · rw [hb] at e2; simp only [Option.some.injEq, Addr.mk.injEq, and_true] at e2; omega
theorem Md.done {c : Int} {j q B : Nat} {p : Option Addr} (h : Md w wr S tb (rsL c L) D (tkR c L) j tv p q B) (hj : j = (tkR c L).length) (hL : Ok L) (hlen : L.length ≤ 1024) (hs : L.length + D.length ≤ k) (hd : ∀ p ∈ L, p.1 ∉ D) : On w wr S tb (rsL c L) (D ++ tkR c L) tv (k + 1) := by
  subst hj
  have ht := h.told
  rw [List.take_length] at ht
  have hl := tk_len c L
  refine ⟨h.tb, by omega, by rw [List.length_append]; omega, fun p hp hm => ?_, ht, fun g hg => ⟨(h.sep g hg).1, (h.sep g hg).2.1⟩, h.new, h.fr⟩
  have hpL := (List.mem_filter.1 hp).1
  rcases List.mem_append.1 hm with hm | hm
  · exact hd p hpL hm
  · have h1 := lk_rs hL c p.1
    rw [if_pos hm, lk_of (rs_ok hL c).nd hp] at h1
    cases h1
theorem told_new {c : Int} (hL : Ok L) (hd : ∀ p ∈ L, p.1 ∉ D) {j : Nat} {x : Int} (hx : (tkR c L)[j]? = some x) : x ∉ D ++ (tkR c L).take j ∧ stN (rsL c L) (D ++ tkR c L) x = 2 ∧ wfK x := by
  have hm := List.mem_of_getElem? hx
  obtain ⟨l, h1, _⟩ := mem_tkR.1 hm
  refine ⟨fun h => ?_, ?_, rng_wf (hL.rg _ h1).1⟩
  · rcases List.mem_append.1 h with h | h
    · exact hd _ h1 h
    · have hnd := tk_nodup hL c
      rw [← List.take_append_drop (j + 1) (tkR c L), show (tkR c L).take (j + 1) = (tkR c L).take j ++ [x] by rw [List.take_add_one, hx]; rfl] at hnd
      exact (List.nodup_append.1 (List.nodup_append.1 hnd).1).2.2 x h x (by simp) rfl
  · unfold stN
    rw [lk_rs hL c x, if_pos hm]
    simp [hm]
end Go.Proofs.Ytfmjefmocenkbaa
