
/- The document's disk in memory; what its New and full do. -/
import Derived.Test.YtkmjmbpdmgoknaaDkArr
namespace Go.Proofs.Ytkmjmbpdmgoknaa
open Go.RowKit

/-- Where a sector lies, of the document's disk: nowhere, or in a block of its own. -/
def lvOf : Option Nat → Value
  | none => .slice none 0 0
  | some b => .slice (some ⟨b, 0, none⟩) 256 256
def lc (p : Option Nat × Sec) : List Value := [lvOf p.1]
def qc (q : Nat × Nat × Sec) : List Value := [.int .i64 (q.1 : Nat), lvOf (some q.2.1)]
theorem lc_length (p : Option Nat × Sec) : (lc p).length = 1 := rfl
theorem qc_length (q : Nat × Nat × Sec) : (qc q).length = 2 := rfl
theorem lvOf_one (o : Option Nat) : (lvOf o).oneCell' = true := by cases o <;> rfl
theorem lc_one (p : Option Nat × Sec) : ∀ u ∈ lc p, u.oneCell' = true := fun u hu => by
  obtain rfl := List.mem_singleton.1 hu; exact lvOf_one _
theorem qc_one (q : Nat × Nat × Sec) : ∀ u ∈ qc q, u.oneCell' = true := fun u hu => by
  rcases List.mem_cons.1 hu with rfl | h
  · rfl
  · obtain rfl := List.mem_singleton.1 h; rfl
def rkS (rb : Nat) (lv qv : Value) : Nat → Prop := fun k => k = rb ∨ lv.ownBlock = some k ∨ qv.ownBlock = some k
/-- A sector that lies where it is said to. -/
def Lies (w : World) (o : Option Nat) (s : Sec) : Prop := match o with
  | none => s = zeroSec
  | some b => Row w (some ⟨b, 0, none⟩) 256 s.1
structure Rk (w : World) (rb : Nat) (lv qv : Value) (A : List (Option Nat × Sec)) (B : List (Nat × Nat × Sec)) : Prop where
  box : w.heap[rb]? = some (.cells #[lv, qv] 40 (0, 0))
  lasts : Has w 1 lv A.length (A.flatMap lc)
  waits : Has w 2 qv B.length (B.flatMap qc)
  ne1 : lv.ownBlock ≠ some rb
  ne2 : qv.ownBlock ≠ some rb
  ne3 : ∀ k, lv.ownBlock = some k → qv.ownBlock ≠ some k
  at_ : ∀ q ∈ B, q.1 < A.length
  rowA : ∀ p ∈ A, Lies w p.1 p.2 ∧ ∀ b, p.1 = some b → ¬ rkS rb lv qv b
  rowB : ∀ q ∈ B, Lies w (some q.2.1) q.2.2 ∧ ¬ rkS rb lv qv q.2.1
  pos : 1 ≤ A.length
  top : A.length ≤ 8192
theorem Sec.ne (s : Sec) : s.1 ≠ [] := fun e => by have := s.2.1; rw [e] at this; simp at this
theorem Lies.lt {w : World} {b : Nat} {s : Sec} (h : Lies w (some b) s) : b < w.heap.size := Row.lt (h : Row w _ _ _) rfl s.ne
theorem Lies.fr {S : Nat → Prop} {w w' : World} {o : Option Nat} {s : Sec} (h : Lies w o s) (f : Fr S w w') (hn : ∀ b, o = some b → ¬ S b) : Lies w' o s := by
  cases o with
  | none => exact h
  | some b => exact Row.fr (h : Row w _ _ _) f (fun b' off e _ => by cases e; exact hn b rfl)
theorem Lies.same {w w' : World} {o : Option Nat} {s : Sec} (h : Lies w o s) (f : Fr (fun _ => False) w w') : Lies w' o s := h.fr f (fun _ _ f => f)
theorem Lies.row {w : World} {o : Option Nat} {s : Sec} (h : Lies w o s) : ∃ (a : Option Addr) (c : Nat) (l : List Nat), lvOf o = .slice a l.length c ∧ Row w a c l ∧ l.length ≤ 256 ∧ padS l = s := by
  cases o with
  | none => exact ⟨none, 0, [], rfl, row_nil _ _, by simp, by rw [h]; rfl⟩
  | some b =>
    refine ⟨_, 256, s.1, by rw [s.2.1]; rfl, h, by rw [s.2.1]; exact Nat.le_refl _, ?_⟩
    unfold padS
    rw [dif_pos ⟨by rw [s.2.1]; exact Nat.le_refl _, s.2.2⟩]
    apply Subtype.ext
    simp [padSec, s.2.1]
section
variable {w w' : World} {rb : Nat} {lv qv : Value} {A : List (Option Nat × Sec)} {B : List (Nat × Nat × Sec)}
theorem Rk.lt (h : Rk w rb lv qv A B) {k : Nat} (hk : rkS rb lv qv k) : k < w.heap.size := by
  rcases hk with rfl | hk | hk
  · exact lt_of_block h.box
  · exact h.lasts.lt hk
  · exact h.waits.lt hk
/-- The blocks that hold sectors. -/
def secS (A : List (Option Nat × Sec)) (B : List (Nat × Nat × Sec)) (k : Nat) : Prop := (∃ p ∈ A, p.1 = some k) ∨ ∃ q ∈ B, q.2.1 = k
theorem Rk.sec_lt (h : Rk w rb lv qv A B) {k : Nat} (hk : secS A B k) : k < w.heap.size := by
  rcases hk with ⟨p, hp, e⟩ | ⟨q, hq, rfl⟩
  · have := (h.rowA p hp).1; rw [e] at this; exact this.lt
  · exact (h.rowB q hq).1.lt
theorem Rk.framed {S : Nat → Prop} (h : Rk w rb lv qv A B) (f : Fr S w w') (hn : ∀ k, rkS rb lv qv k → ¬ S k) (hs : ∀ k, secS A B k → ¬ S k) : Rk w' rb lv qv A B :=
  ⟨f.block_eq h.box (hn rb (.inl rfl)), h.lasts.fr f (fun k hk => hn k (.inr (.inl hk))), h.waits.fr f (fun k hk => hn k (.inr (.inr hk))), h.ne1, h.ne2, h.ne3, h.at_,
    fun p hp => ⟨(h.rowA p hp).1.fr f (fun b e => hs b (.inl ⟨p, hp, e⟩)), (h.rowA p hp).2⟩, fun q hq => ⟨(h.rowB q hq).1.fr f (fun b e => by cases e; exact hs _ (.inr ⟨q, hq, rfl⟩)), (h.rowB q hq).2⟩, h.pos, h.top⟩
theorem Rk.same (h : Rk w rb lv qv A B) (f : Fr (fun _ => False) w w') : Rk w' rb lv qv A B := h.framed f (fun _ _ f => f) (fun _ _ f => f)
theorem Rk.cell0 (h : Rk w rb lv qv A B) : w.cell? ⟨rb, 0, none⟩ = some lv := cell_at h.box 0
theorem Rk.cell1 (h : Rk w rb lv qv A B) : w.cell? ⟨rb, 1, none⟩ = some qv := cell_at h.box 1
theorem Rk.free1 (h : Rk w rb lv qv A B) : w.frozen? ⟨rb, 1, none⟩ = false := free_at h.box 1
theorem Rk.last (h : Rk w rb lv qv A B) {i : Nat} {p : Option Nat × Sec} (hp : A[i]? = some p) : ∃ g cap, lv = .slice (some ⟨g, 0, none⟩) A.length cap ∧ A.length ≤ cap ∧ g < w.heap.size ∧ i < A.length ∧ w.cell? ⟨g, i, none⟩ = some (lvOf p.1) ∧ w.frozen? ⟨g, i, none⟩ = false := by
  obtain ⟨hi, _⟩ := List.getElem?_eq_some_iff.1 hp
  obtain ⟨g, cap, rfl, hg, hc, _, hth, _⟩ := h.lasts.form h.pos
  have h1 := (h.lasts.elem lc_length hp) 0 _ rfl
  have h2 := (hth i (by omega)).2
  rw [Nat.mul_one, Nat.add_zero] at h1
  rw [Nat.zero_add] at h2
  exact ⟨g, cap, rfl, hc, hg, hi, h1, h2⟩
theorem Rk.wait (h : Rk w rb lv qv A B) {k : Nat} {q : Nat × Nat × Sec} (hq : B[k]? = some q) : ∃ g cap, qv = .slice (some ⟨g, 0, none⟩) B.length cap ∧ k < B.length ∧ w.cell? ⟨g, k * 2, none⟩ = some (.int .i64 (q.1 : Nat)) ∧ w.cell? ⟨g, k * 2 + 1, none⟩ = some (lvOf (some q.2.1)) ∧ q.1 < A.length := by
  obtain ⟨hk, _⟩ := List.getElem?_eq_some_iff.1 hq
  obtain ⟨g, cap, rfl, _⟩ := h.waits.form (by omega)
  have he := h.waits.elem qc_length hq
  exact ⟨g, cap, rfl, hk, he 0 _ rfl, he 1 _ rfl, h.at_ q (List.mem_of_getElem? hq)⟩
/-- A sector is stored at a place. -/
theorem Rk.put {g n cap : Nat} (h : Rk w rb (.slice (some ⟨g, 0, none⟩) n cap) qv A B) {i b : Nat} (hn : n = A.length) (hi : i < A.length) (s : Sec) (hl : Lies w (some b) s) (hb : ¬ rkS rb (.slice (some ⟨g, 0, none⟩) n cap) qv b) :
    Rk (w.setCell ⟨g, i, none⟩ (lvOf (some b))) rb (.slice (some ⟨g, 0, none⟩) n cap) qv (A.set i (some b, s)) B := by
  subst hn
  have F : Fr (fun k => k = g) w (w.setCell ⟨g, i, none⟩ (lvOf (some b))) := (Fr.refl (fun k => k = g) w).setCell (p := ⟨g, i, none⟩) (fun _ => rfl) _
  have hgs : rkS rb (.slice (some ⟨g, 0, none⟩) A.length cap) qv g := .inr (.inl rfl)
  have hp := h.lasts.put lc_length hi (some b, s)
  rw [Nat.mul_one] at hp
  refine ⟨F.block_eq h.box (fun e => h.ne1 (by rw [e]; rfl)), by rw [List.length_set]; exact hp, h.waits.fr F (fun k hk e => h.ne3 g rfl (by rw [← e]; exact hk)), h.ne1, h.ne2, h.ne3, by rw [List.length_set]; exact h.at_, fun p hp => ?_, fun q hq => ⟨(h.rowB q hq).1.fr F (fun b' e e2 => by cases e; exact (h.rowB q hq).2 (by rw [e2]; exact hgs)), (h.rowB q hq).2⟩, by rw [List.length_set]; exact h.pos, by rw [List.length_set]; exact h.top⟩
  rcases List.mem_or_eq_of_mem_set hp with h1 | rfl
  · exact ⟨(h.rowA p h1).1.fr F (fun b' e e2 => (h.rowA p h1).2 b' e (by rw [e2]; exact hgs)), (h.rowA p h1).2⟩
  · exact ⟨hl.fr F (fun b' e e2 => by cases e; exact hb (by rw [e2]; exact hgs)), fun b' e => by cases e; exact hb⟩
/-- The row of waiting writes is stored anew. -/
theorem Rk.grow {W w1 : World} {v2 : Value} {B2 : List (Nat × Nat × Sec)} {X : Prop} (h : Rk w rb lv qv A B) (F : Fr (fun _ => False) w W) (hfr : Fr (fun k => qv.ownBlock = some k ∧ X) W w1)
    (hrow : Has w1 2 v2 B2.length (B2.flatMap qc)) (hat : v2.ownBlock = qv.ownBlock ∨ v2.ownBlock = none ∨ ∃ g, v2.ownBlock = some g ∧ W.heap.size ≤ g) (hmem : ∀ q ∈ B2, q.1 < A.length ∧ Lies W (some q.2.1) q.2.2 ∧ ¬ rkS rb lv qv q.2.1) :
    Rk (w1.setCell ⟨rb, 1, none⟩ v2) rb lv v2 A B2 ∧ Fr (rkS rb lv qv) w (w1.setCell ⟨rb, 1, none⟩ v2) ∧ (∀ k, rkS rb lv v2 k → rkS rb lv qv k ∨ w.heap.size ≤ k) := by
  have hlt := lt_of_block h.box
  have F1 : Fr (fun k => qv.ownBlock = some k) W w1 := hfr.mono (fun _ _ e => e.1)
  have F2 : Fr (fun k => qv.ownBlock = some k) w w1 := (F.any (S := fun k => qv.ownBlock = some k)).trans hfr (fun i _ e => e.1)
  have F3 : Fr (fun k => k = rb) w1 (w1.setCell ⟨rb, 1, none⟩ v2) := (Fr.refl (fun k => k = rb) w1).setCell (p := ⟨rb, 1, none⟩) (fun _ => rfl) v2
  have hs := F.size
  have hW := h.same F
  have old : ∀ k, k < W.heap.size → rkS rb lv v2 k → rkS rb lv qv k := fun k hk hh => by
    rcases hh with e | e | e
    · exact .inl e
    · exact .inr (.inl e)
    · rcases hat with e2 | e2 | ⟨g, e2, hg⟩
      · exact .inr (.inr (by rw [← e2]; exact e))
      · rw [e2] at e; cases e
      · rw [e2] at e; simp at e; omega
  have hne : v2.ownBlock ≠ some rb := fun e => by
    rcases hat with e2 | e2 | ⟨g, e2, hg⟩
    · exact h.ne2 (by rw [← e2]; exact e)
    · rw [e2] at e; cases e
    · rw [e2] at e; simp at e; omega
  have keep : ∀ {o : Option Nat} {s : Sec}, Lies W o s → (∀ b, o = some b → ¬ rkS rb lv qv b) → Lies (w1.setCell ⟨rb, 1, none⟩ v2) o s := fun hl hn =>
    (hl.fr F1 (fun b e e2 => hn b e (.inr (.inr e2)))).fr F3 (fun b e e2 => hn b e (.inl e2))
  refine ⟨⟨pair_setCell1 (F2.block_eq h.box h.ne2) v2, (h.lasts.fr F2 (fun k hk e => h.ne3 k hk e)).fr F3 (fun k hk e => h.ne1 (by rw [hk, e])), hrow.fr F3 (fun k hk e => hne (by rw [hk, e])), h.ne1, hne, fun k hk e => ?_, fun q hq => (hmem q hq).1,
    fun p hp => ⟨keep (hW.rowA p hp).1 (hW.rowA p hp).2, fun b e e2 => (hW.rowA p hp).2 b e (old b ((hW.sec_lt (.inl ⟨p, hp, e⟩))) e2)⟩,
    fun q hq => ⟨keep (hmem q hq).2.1 (fun b e => by cases e; exact (hmem q hq).2.2), fun e2 => (hmem q hq).2.2 (old _ (hmem q hq).2.1.lt e2)⟩, h.pos, h.top⟩,
    (F2.mono (T := rkS rb lv qv) (fun i _ e => .inr (.inr e))).setCell (fun _ => .inl rfl) v2, fun k hk => ?_⟩
  · have h1 := old k (by have := h.lasts.lt hk; omega) (.inr (.inr e))
    rcases h1 with e1 | e1 | e1
    · exact h.ne1 (by rw [hk, e1])
    · rcases hat with e2 | e2 | ⟨g, e2, hg⟩
      · exact h.ne3 k hk (by rw [← e2]; exact e)
      · rw [e2] at e; cases e
      · rw [e2] at e; simp at e; have := h.lasts.lt hk; omega
    · exact h.ne3 k hk e1
  · by_cases hk2 : k < W.heap.size
    · exact .inl (old k hk2 hk)
    · exact .inr (by omega)
end

theorem info37 : (Try.prog.info? 31).map (fun i => (i.zero, i.size, i.bytes)) = some (some (.slice none 0 0), 1, 24) := by kernel_rfl
theorem infoW : (Try.prog.info? 58).map (fun i => (i.zero, i.size, i.bytes)) = some (some (.agg #[.int .i64 0, .slice none 0 0]), 2, 32) := by kernel_rfl

theorem dsnew_bad (n : Int) (h : n < 1 ∨ 8192 < n) (w : World) : Calls Try.prog 5 #[.int .i64 n] w fun e w' => e = .returned (.tuple #[.pointer none, .int .i64 1]) ∧ w' = w := by
  rcases h with h | h
  · go_enter Try.func5, Try.ntmps5
    go_wp2
    go_ret2
    exact ⟨rfl, rfl⟩
  · have h2 : 1 ≤ n := by omega
    go_enter Try.func5, Try.ntmps5
    go_wp2
    go_ret2
    exact ⟨rfl, rfl⟩
theorem dsnew_ok (n : Nat) (h1 : 1 ≤ n) (h2 : n ≤ 8192) (w : World) : Calls Try.prog 5 #[.int .i64 n] w fun e w' => e = .returned (.tuple #[.pointer (some ⟨w.heap.size + 1, 0, none⟩), .int .i64 0]) ∧
    Rk w' (w.heap.size + 1) (.slice (some ⟨w.heap.size, 0, none⟩) n n) (.slice none 0 0) (List.replicate n (none, zeroSec)) [] ∧ Fr (fun _ => False) w w' := by
  obtain ⟨i0, hi, hz0, hz1, hz2⟩ := info_parts info37
  have hmk := fun (w : World) => run_make (P := Try.prog) w 37 31 i0 _ Try.underlying37 hi hz0 .i64 .i64 n n (by omega) (by omega) (by rw [hz2]; omega) (by omega)
  simp only [hz1, Int.toNat_natCast] at hmk
  have hh2 := Has.made lc (none, zeroSec) (size := 1) (by omega) (z := .slice none 0 0) (by rfl) (lc_length _) n (by unfold maxLen; omega) w 31
  generalize (madeCells (Value.slice none 0 0).cells (n * 1)) = C at hmk hh2
  have h1' : (1 : Int) ≤ n := by omega
  have h2' : (n : Int) ≤ 8192 := by omega
  have HH : Hid (Has (w.alloc (.cells C 31)) 1 (.slice (some ⟨w.heap.size, 0, none⟩) n n) n ((List.replicate n (none, zeroSec)).flatMap lc)) := hh2
  clear hz0 hi hz1 hz2 hh2
  go_enter Try.func5, Try.ntmps5
  go_wp2
  go_ret2
  have f : Fr (fun _ => False) (w.alloc (.cells C 31)) ((w.alloc (.cells C 31)).alloc (.cells #[.slice (some ⟨w.heap.size, 0, none⟩) n n, .slice none 0 0] 40)) := (Fr.refl (fun _ => False) _).alloc _
  refine ⟨rfl, ⟨?_, ?_, Has.nil _ _, by simp [Value.ownBlock], by simp [Value.ownBlock], fun k _ => by simp [Value.ownBlock], (fun q hq => by cases hq), (fun p hp => by obtain ⟨_, rfl⟩ := List.mem_replicate.1 hp; exact ⟨rfl, fun b e => by cases e⟩), (fun q hq => by cases hq), by simpa using h1, by simpa using h2⟩, ((Fr.refl (fun _ => False) w).alloc _).alloc _⟩
  · have := heap_alloc_new (w.alloc (.cells C 31)) (.cells #[.slice (some ⟨w.heap.size, 0, none⟩) n n, .slice none 0 0] 40)
    simpa using this
  · rw [List.length_replicate]
    exact HH.out.fr f (fun _ _ f => f)
end Go.Proofs.Ytkmjmbpdmgoknaa
