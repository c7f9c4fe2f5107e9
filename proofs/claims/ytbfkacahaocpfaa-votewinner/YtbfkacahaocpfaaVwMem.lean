
/- Voters, tallies, ends and winners of an election, in memory. -/
import Derived.Test.YtbfkacahaocpfaaVwMath
namespace Go.Proofs.Ytbfkacahaocpfaa
open Go.RowKit
open Go.Proofs.Ytbfkacahaocpfaa.Qu

theorem Blk.set {w : World} {b : Nat} {C : Array Value} {t : TypeId} (h : Blk w b C t) (i : Nat) (v : Value) : Blk (w.setCell ⟨b, i, none⟩ v) b (C.setIfInBounds i v) t := by
  have hlt := h.lt
  have h' : w.heap[b] = .cells C t (0, 0) := by unfold Blk at h; simpa [Array.getElem?_eq_getElem hlt] using h
  show (w.heap.modify b _)[b]? = _
  rw [Array.getElem?_eq_getElem (by rw [Array.size_modify]; exact hlt), Array.getElem_modify_self, h']
  rfl
theorem Blk.froz {w : World} {b : Nat} {C : Array Value} {t : TypeId} (h : Blk w b C t) (i : Nat) : w.frozen? ⟨b, i, none⟩ = false := by
  unfold Blk at h
  simp [World.frozen?, h]
def tpV : Option Nat → Value
  | none => .pointer none
  | some b => .pointer (some ⟨b, 0, none⟩)
structure Mem (B : Nat) (w : World) (A T E n : Nat) (m : Nat) (S : Sx) (en : Nat → Int × Int) (gv : Value) (gs : List (Int × Int)) : Prop where
  a : ∃ C, Blk w A C 65 ∧ C.size = 7 ∧ ∀ i, i < m → C[i]? = some (.pointer (some ⟨S.vb i, 0, none⟩))
  t : ∃ C, Blk w T C 67 ∧ C.size = 7 ∧ ∀ i, i < 7 → C[i]? = some (tpV (S.tp i))
  en : ∃ C, Blk w E C 68 ∧ C.size = 14 ∧ ∀ i, i < 7 → C[i * 2]? = some (.int .i64 (en i).1) ∧ C[i * 2 + 1]? = some (.int .i64 (en i).2)
  vt : ∀ i, i < m → Vt w (S.vb i) (S.e i) (S.f i)
  tt : ∀ i, i < m → ∀ b, S.tp i = some b → Ta w b n (S.te i) (S.ts i)
  wn : Has w 3 gv gs.length (gs.flatMap gvC)
  bl : B ≤ A ∧ B ≤ T ∧ B ≤ E ∧ A ≠ T ∧ A ≠ E ∧ T ≠ E
  vo : ∀ i, i < m → B ≤ S.vb i ∧ S.vb i ≠ A ∧ S.vb i ≠ T ∧ S.vb i ≠ E
  vi : ∀ i j, i < m → j < m → S.vb i = S.vb j → i = j
  tof : ∀ i, i < m → ∀ b, S.tp i = some b → B ≤ b ∧ b ≠ A ∧ b ≠ T ∧ b ≠ E ∧ ∀ j, j < m → S.vb j ≠ b
  ti : ∀ i j b, i < m → j < m → S.tp i = some b → S.tp j = some b → i = j
  wo : ∀ q, gv.ownBlock = some q → B ≤ q ∧ q ≠ A ∧ q ≠ T ∧ q ≠ E ∧ (∀ j, j < m → S.vb j ≠ q) ∧ ∀ j, j < m → S.tp j ≠ some q
section
variable {B : Nat} {w w' : World} {A T E n m : Nat} {S : Sx} {en : Nat → Int × Int} {gv : Value} {gs : List (Int × Int)}
theorem Mem.ltA (h : Mem B w A T E n m S en gv gs) : A < w.heap.size ∧ T < w.heap.size ∧ E < w.heap.size := by
  obtain ⟨_, h1, _⟩ := h.a
  obtain ⟨_, h2, _⟩ := h.t
  obtain ⟨_, h3, _⟩ := h.en
  exact ⟨h1.lt, h2.lt, h3.lt⟩
theorem Mem.va (h : Mem B w A T E n m S en gv gs) {i : Nat} (hi : i < m) : w.cell? ⟨A, i, none⟩ = some (.pointer (some ⟨S.vb i, 0, none⟩)) ∧ w.frozen? ⟨A, i, none⟩ = false := by
  obtain ⟨C, h1, _, h3⟩ := h.a
  exact ⟨h1.cell (h3 i hi), h1.froz i⟩
theorem Mem.vx (h : Mem B w A T E n m S en gv gs) {i : Nat} (hi : i < 7) : ∃ v, w.cell? ⟨A, i, none⟩ = some v ∧ w.frozen? ⟨A, i, none⟩ = false := by
  obtain ⟨C, h1, h2, _⟩ := h.a
  exact ⟨_, h1.cell (Array.getElem?_eq_getElem (by omega)), h1.froz i⟩
theorem Mem.ta (h : Mem B w A T E n m S en gv gs) {i : Nat} (hi : i < 7) : w.cell? ⟨T, i, none⟩ = some (tpV (S.tp i)) ∧ w.frozen? ⟨T, i, none⟩ = false := by
  obtain ⟨C, h1, _, h3⟩ := h.t
  exact ⟨h1.cell (h3 i hi), h1.froz i⟩
theorem Mem.ea (h : Mem B w A T E n m S en gv gs) {i : Nat} (hi : i < 7) : w.cell? ⟨E, i * 2, none⟩ = some (.int .i64 (en i).1) ∧ w.cell? ⟨E, i * 2 + 1, none⟩ = some (.int .i64 (en i).2) ∧ w.frozen? ⟨E, i * 2, none⟩ = false ∧ w.frozen? ⟨E, i * 2 + 1, none⟩ = false := by
  obtain ⟨C, h1, _, h3⟩ := h.en
  exact ⟨h1.cell (h3 i hi).1, h1.cell (h3 i hi).2, h1.froz _, h1.froz _⟩
theorem Mem.fr (h : Mem B w A T E n m S en gv gs) {P : Nat → Prop} (f : Fr P w w') (hA : ¬ P A) (hT : ¬ P T) (hE : ¬ P E) (hv : ∀ i, i < m → ¬ P (S.vb i)) (ht : ∀ i, i < m → ∀ b, S.tp i = some b → ¬ P b) (hw : ∀ q, gv.ownBlock = some q → ¬ P q) : Mem B w' A T E n m S en gv gs := by
  refine ⟨?_, ?_, ?_, fun i hi => Two.fr (h.vt i hi) f (hv i hi), fun i hi b hb => Thr.fr (h.tt i hi b hb) f (ht i hi b hb), h.wn.fr f hw, h.bl, h.vo, h.vi, h.tof, h.ti, h.wo⟩
  · obtain ⟨C, h1, h2⟩ := h.a
    exact ⟨C, h1.fr f hA, h2⟩
  · obtain ⟨C, h1, h2⟩ := h.t
    exact ⟨C, h1.fr f hT, h2⟩
  · obtain ⟨C, h1, h2⟩ := h.en
    exact ⟨C, h1.fr f hE, h2⟩
theorem Mem.same (h : Mem B w A T E n m S en gv gs) (f : Fr (fun _ => False) w w') : Mem B w' A T E n m S en gv gs := h.fr f id id id (fun _ _ => id) (fun _ _ _ _ => id) (fun _ _ => id)
theorem Mem.ask (h : Mem B w A T E n m S en gv gs) {whom : Nat} (hm : whom < m) {e' f' : Int} (t : VtTo w (S.vb whom) e' f' w') : Mem B w' A T E n m (askS S whom e' f') en gv gs := by
  obtain ⟨o1, o2, o3, o4⟩ := h.vo whom hm
  refine ⟨?_, ?_, ?_, fun i hi => ?_, fun i hi b hb => Thr.fr (h.tt i hi b hb) t.2 (fun e => (h.tof i hi b hb).2.2.2.2 whom hm e.symm), h.wn.fr t.2 (fun q hq e => (h.wo q hq).2.2.2.2.1 whom hm e.symm), h.bl, h.vo, h.vi, h.tof, h.ti, h.wo⟩
  · obtain ⟨C, h1, h2⟩ := h.a
    exact ⟨C, h1.fr t.2 (fun e => o2 e.symm), h2⟩
  · obtain ⟨C, h1, h2⟩ := h.t
    exact ⟨C, h1.fr t.2 (fun e => o3 e.symm), h2⟩
  · obtain ⟨C, h1, h2⟩ := h.en
    exact ⟨C, h1.fr t.2 (fun e => o4 e.symm), h2⟩
  · show Vt w' (S.vb i) (upd S.e whom e' i) (upd S.f whom f' i)
    by_cases hiw : i = whom
    · subst hiw
      rw [upd_at, upd_at]; exact t.1
    · rw [upd_ne _ _ hiw, upd_ne _ _ hiw]
      exact Two.fr (h.vt i hi) t.2 (fun e => hiw (h.vi i whom hi hm e))
theorem Mem.add (h : Mem B w A T E n m S en gv gs) {who tb : Nat} (hw : who < m) (ht : S.tp who = some tb) {s' : Int} (t : Ta w' tb n (S.te who) s') (f : Fr (fun i => i = tb) w w') : Mem B w' A T E n m (addS S who s') en gv gs := by
  obtain ⟨o1, o2, o3, o4, o5⟩ := h.tof who hw tb ht
  refine ⟨?_, ?_, ?_, fun i hi => Two.fr (h.vt i hi) f (fun e => o5 i hi e), fun i hi b hb => ?_, h.wn.fr f (fun q hq e => (h.wo q hq).2.2.2.2.2 who hw (by rw [ht, e])), h.bl, h.vo, h.vi, h.tof, h.ti, h.wo⟩
  · obtain ⟨C, h1, h2⟩ := h.a
    exact ⟨C, h1.fr f (fun e => o2 e.symm), h2⟩
  · obtain ⟨C, h1, h2⟩ := h.t
    exact ⟨C, h1.fr f (fun e => o3 e.symm), h2⟩
  · obtain ⟨C, h1, h2⟩ := h.en
    exact ⟨C, h1.fr f (fun e => o4 e.symm), h2⟩
  · have hb' : S.tp i = some b := hb
    show Ta w' b n (S.te i) (upd S.ts who s' i)
    by_cases hiw : i = who
    · subst hiw
      rw [ht] at hb'
      obtain rfl : tb = b := by simpa using hb'
      rw [upd_at]; exact t
    · rw [upd_ne _ _ hiw]
      refine Thr.fr (h.tt i hi b hb') f (fun e => hiw (h.ti i who b hi hw hb' (by rw [ht, e])))
theorem Mem.put (h : Mem B w A T E n m S en gv gs) (_ : m ≤ 7) {who b : Nat} (hw : who < m) {ep s : Int} (t : Ta w b n ep s) (hB : B ≤ b) (hb : b ≠ A ∧ b ≠ T ∧ b ≠ E) (hv : ∀ j, j < m → S.vb j ≠ b) (ht : ∀ j, j < m → S.tp j ≠ some b) (hg : ∀ q, gv.ownBlock = some q → q ≠ b) :
    Mem B (w.setCell ⟨T, who, none⟩ (.pointer (some ⟨b, 0, none⟩))) A T E n m ⟨S.vb, S.e, S.f, upd S.tp who (some b), upd S.te who ep, upd S.ts who s⟩ en gv gs := by
  have f : Fr (fun i => i = T) w (w.setCell ⟨T, who, none⟩ (.pointer (some ⟨b, 0, none⟩))) := (Fr.refl (fun i => i = T) w).setCell (p := ⟨T, who, none⟩) (fun _ => rfl) _
  obtain ⟨l1, l2, l3, l4, l5, l6⟩ := h.bl
  refine ⟨?_, ?_, ?_, fun i hi => Two.fr (h.vt i hi) f (h.vo i hi).2.2.1, fun i hi b' hb' => ?_, h.wn.fr f (fun q hq => (h.wo q hq).2.2.1), h.bl, h.vo, h.vi, fun i hi b' hb' => ?_, fun i j b' hi hj h1 h2 => ?_, fun q hq => ?_⟩
  · obtain ⟨C, h1, h2⟩ := h.a
    exact ⟨C, h1.fr f l4, h2⟩
  · obtain ⟨C, h1, h2, h3⟩ := h.t
    refine ⟨_, h1.set who _, by simp [h2], fun i hi => ?_⟩
    show (C.setIfInBounds who _)[i]? = some (tpV (upd S.tp who (some b) i))
    by_cases hiw : i = who
    · subst hiw
      rw [upd_at, Array.getElem?_setIfInBounds_self_of_lt (by omega)]; rfl
    · rw [upd_ne _ _ hiw, Array.getElem?_setIfInBounds_ne (fun e => hiw e.symm)]; exact h3 i hi
  · obtain ⟨C, h1, h2⟩ := h.en
    exact ⟨C, h1.fr f (fun e => l6 e.symm), h2⟩
  · have hb2 : upd S.tp who (some b) i = some b' := hb'
    show Ta _ b' n (upd S.te who ep i) (upd S.ts who s i)
    by_cases hiw : i = who
    · subst hiw
      rw [upd_at] at hb2
      obtain rfl : b = b' := by simpa using hb2
      rw [upd_at, upd_at]
      exact Thr.fr t f hb.2.1
    · rw [upd_ne _ _ hiw] at hb2
      rw [upd_ne _ _ hiw, upd_ne _ _ hiw]
      exact Thr.fr (h.tt i hi b' hb2) f (h.tof i hi b' hb2).2.2.1
  · have hb2 : upd S.tp who (some b) i = some b' := hb'
    by_cases hiw : i = who
    · subst hiw
      rw [upd_at] at hb2
      obtain rfl : b = b' := by simpa using hb2
      exact ⟨hB, hb.1, hb.2.1, hb.2.2, hv⟩
    · rw [upd_ne _ _ hiw] at hb2
      exact h.tof i hi b' hb2
  · have h1' : upd S.tp who (some b) i = some b' := h1
    have h2' : upd S.tp who (some b) j = some b' := h2
    by_cases hiw : i = who
    · subst hiw
      by_cases hjw : j = i
      · exact hjw.symm
      · rw [upd_at] at h1'
        rw [upd_ne _ _ hjw] at h2'
        obtain rfl : b = b' := by simpa using h1'
        exact absurd h2' (ht j hj)
    · rw [upd_ne _ _ hiw] at h1'
      by_cases hjw : j = who
      · subst hjw
        rw [upd_at] at h2'
        obtain rfl : b = b' := by simpa using h2'
        exact absurd h1' (ht i hi)
      · rw [upd_ne _ _ hjw] at h2'
        exact h.ti i j b' hi hj h1' h2'
  · obtain ⟨a1, a2, a3, a4, a5, a6⟩ := h.wo q hq
    refine ⟨a1, a2, a3, a4, a5, fun j hj => ?_⟩
    show upd S.tp who (some b) j ≠ some q
    by_cases hjw : j = who
    · subst hjw
      rw [upd_at]
      intro e
      exact hg q hq (by simpa using e.symm)
    · rw [upd_ne _ _ hjw]; exact a6 j hj
theorem Mem.newv (h : Mem B w A T E n m S en gv gs) (hm7 : m < 7) {b : Nat} {e f' : Int} (hS : S.e m = e ∧ S.f m = f' ∧ S.tp m = none) (t : Vt w b e f') (hB : B ≤ b) (hb : b ≠ A ∧ b ≠ T ∧ b ≠ E) (hv : ∀ j, j < m → S.vb j ≠ b) (ht : ∀ j, j < m → S.tp j ≠ some b) (hg : ∀ q, gv.ownBlock = some q → q ≠ b) :
    Mem B (w.setCell ⟨A, m, none⟩ (.pointer (some ⟨b, 0, none⟩))) A T E n (m + 1) ⟨upd S.vb m b, S.e, S.f, S.tp, S.te, S.ts⟩ en gv gs := by
  have f : Fr (fun i => i = A) w (w.setCell ⟨A, m, none⟩ (.pointer (some ⟨b, 0, none⟩))) := (Fr.refl (fun i => i = A) w).setCell (p := ⟨A, m, none⟩) (fun _ => rfl) _
  obtain ⟨l1, l2, l3, l4, l5, l6⟩ := h.bl
  have lt_or : ∀ i, i < m + 1 → i = m ∨ (i < m ∧ i ≠ m) := fun i hi => by omega
  refine ⟨?_, ?_, ?_, fun i hi => ?_, fun i hi b' hb' => ?_, h.wn.fr f (fun q hq => (h.wo q hq).2.1), h.bl, fun i hi => ?_, fun i j hi hj he => ?_, fun i hi b' hb' => ?_, fun i j b' hi hj h1 h2 => ?_, fun q hq => ?_⟩
  · obtain ⟨C, h1, h2, h3⟩ := h.a
    refine ⟨_, h1.set m _, by simp [h2], fun i hi => ?_⟩
    show (C.setIfInBounds m _)[i]? = some (.pointer (some ⟨upd S.vb m b i, 0, none⟩))
    rcases lt_or i hi with rfl | ⟨hi', hne⟩
    · rw [upd_at, Array.getElem?_setIfInBounds_self_of_lt (by omega)]
    · rw [upd_ne _ _ hne, Array.getElem?_setIfInBounds_ne (fun e => hne e.symm)]; exact h3 i hi'
  · obtain ⟨C, h1, h2⟩ := h.t
    exact ⟨C, h1.fr f (fun e => l4 e.symm), h2⟩
  · obtain ⟨C, h1, h2⟩ := h.en
    exact ⟨C, h1.fr f (fun e => l5 e.symm), h2⟩
  · show Vt _ (upd S.vb m b i) (S.e i) (S.f i)
    rcases lt_or i hi with rfl | ⟨hi', hne⟩
    · rw [upd_at, hS.1, hS.2.1]; exact Two.fr t f hb.1
    · rw [upd_ne _ _ hne]; exact Two.fr (h.vt i hi') f (h.vo i hi').2.1
  · have hb2 : S.tp i = some b' := hb'
    rcases lt_or i hi with rfl | ⟨hi', hne⟩
    · rw [hS.2.2] at hb2; cases hb2
    · exact Thr.fr (h.tt i hi' b' hb2) f (h.tof i hi' b' hb2).2.1
  · show B ≤ upd S.vb m b i ∧ upd S.vb m b i ≠ A ∧ upd S.vb m b i ≠ T ∧ upd S.vb m b i ≠ E
    rcases lt_or i hi with rfl | ⟨hi', hne⟩
    · rw [upd_at]; exact ⟨hB, hb⟩
    · rw [upd_ne _ _ hne]; exact h.vo i hi'
  · have he' : upd S.vb m b i = upd S.vb m b j := he
    rcases lt_or i hi with rfl | ⟨hi', hne⟩
    · rcases lt_or j hj with rfl | ⟨hj', hne'⟩
      · rfl
      · rw [upd_at, upd_ne _ _ hne'] at he'
        exact absurd he'.symm (hv j hj')
    · rcases lt_or j hj with rfl | ⟨hj', hne'⟩
      · rw [upd_at, upd_ne _ _ hne] at he'
        exact absurd he' (hv i hi')
      · rw [upd_ne _ _ hne, upd_ne _ _ hne'] at he'
        exact h.vi i j hi' hj' he'
  · have hb2 : S.tp i = some b' := hb'
    rcases lt_or i hi with rfl | ⟨hi', hne⟩
    · rw [hS.2.2] at hb2; cases hb2
    · obtain ⟨a1, a2, a3, a4, a5⟩ := h.tof i hi' b' hb2
      refine ⟨a1, a2, a3, a4, fun j hj => ?_⟩
      show upd S.vb m b j ≠ b'
      rcases lt_or j hj with rfl | ⟨hj', hne'⟩
      · rw [upd_at]
        intro e
        exact ht i hi' (by rw [hb2, e])
      · rw [upd_ne _ _ hne']; exact a5 j hj'
  · have h1' : S.tp i = some b' := h1
    have h2' : S.tp j = some b' := h2
    rcases lt_or i hi with rfl | ⟨hi', _⟩
    · rw [hS.2.2] at h1'; cases h1'
    · rcases lt_or j hj with rfl | ⟨hj', _⟩
      · rw [hS.2.2] at h2'; cases h2'
      · exact h.ti i j b' hi' hj' h1' h2'
  · obtain ⟨a1, a2, a3, a4, a5, a6⟩ := h.wo q hq
    refine ⟨a1, a2, a3, a4, fun j hj => ?_, fun j hj => ?_⟩
    · show upd S.vb m b j ≠ q
      rcases lt_or j hj with rfl | ⟨hj', hne'⟩
      · rw [upd_at]; exact fun e => hg q hq e.symm
      · rw [upd_ne _ _ hne']; exact a5 j hj'
    · show S.tp j ≠ some q
      rcases lt_or j hj with rfl | ⟨hj', _⟩
      · rw [hS.2.2]; intro e; cases e
      · exact a6 j hj'
theorem Mem.ends (h : Mem B w A T E n m S en gv gs) {i : Nat} (hi : i < 7) (x y : Int) : Mem B ((w.setCell ⟨E, i * 2, none⟩ (.int .i64 x)).setCell ⟨E, i * 2 + 1, none⟩ (.int .i64 y)) A T E n m S (upd en i (x, y)) gv gs := by
  have f : Fr (fun i => i = E) w ((w.setCell ⟨E, i * 2, none⟩ (.int .i64 x)).setCell ⟨E, i * 2 + 1, none⟩ (.int .i64 y)) := ((Fr.refl (fun i => i = E) w).setCell (p := ⟨E, i * 2, none⟩) (fun _ => rfl) _).setCell (p := ⟨E, i * 2 + 1, none⟩) (fun _ => rfl) _
  obtain ⟨l1, l2, l3, l4, l5, l6⟩ := h.bl
  refine ⟨?_, ?_, ?_, fun i hi => Two.fr (h.vt i hi) f (h.vo i hi).2.2.2, fun i hi b' hb' => Thr.fr (h.tt i hi b' hb') f (h.tof i hi b' hb').2.2.2.1, h.wn.fr f (fun q hq => (h.wo q hq).2.2.2.1), h.bl, h.vo, h.vi, h.tof, h.ti, h.wo⟩
  · obtain ⟨C, h1, h2⟩ := h.a
    exact ⟨C, h1.fr f l5, h2⟩
  · obtain ⟨C, h1, h2⟩ := h.t
    exact ⟨C, h1.fr f l6, h2⟩
  · obtain ⟨C, h1, h2, h3⟩ := h.en
    refine ⟨_, (h1.set (i * 2) _).set (i * 2 + 1) _, by simp [h2], fun j hj => ?_⟩
    by_cases hji : j = i
    · subst hji
      rw [upd_at]
      refine ⟨?_, ?_⟩
      · rw [Array.getElem?_setIfInBounds_ne (by omega), Array.getElem?_setIfInBounds_self_of_lt (by omega)]
      · rw [Array.getElem?_setIfInBounds_self_of_lt (by simp; omega)]
    · rw [upd_ne _ _ hji]
      refine ⟨?_, ?_⟩
      · rw [Array.getElem?_setIfInBounds_ne (by omega), Array.getElem?_setIfInBounds_ne (by omega)]; exact (h3 j hj).1
      · rw [Array.getElem?_setIfInBounds_ne (by omega), Array.getElem?_setIfInBounds_ne (by omega)]; exact (h3 j hj).2
theorem Mem.won (h : Mem B w A T E n m S en gv gs) {g : Int × Int} {am : Option Addr} {k' cm : Nat} (hB : B ≤ w.heap.size) (hown : Has w' 3 (.slice am k' cm) k' (gs.flatMap gvC ++ gvC g)) (hk : k' = gs.length + 1) (hfr : Fr (fun q => gv.ownBlock = some q ∧ 0 < 1) w w') (hat : (Value.slice am k' cm).ownBlock = gv.ownBlock ∨ (Value.slice am k' cm).ownBlock = some w.heap.size) :
    Mem B w' A T E n m S en (.slice am k' cm) (gs ++ [g]) := by
  obtain ⟨p1, p2, p3⟩ := h.ltA
  refine ⟨?_, ?_, ?_, fun i hi => Two.fr (h.vt i hi) hfr (fun e => (h.wo _ e.1).2.2.2.2.1 i hi rfl), fun i hi b' hb' => Thr.fr (h.tt i hi b' hb') hfr (fun e => (h.wo _ e.1).2.2.2.2.2 i hi hb'), ?_, h.bl, h.vo, h.vi, h.tof, h.ti, fun q hq => ?_⟩
  · obtain ⟨C, h1, h2⟩ := h.a
    exact ⟨C, h1.fr hfr (fun e => (h.wo _ e.1).2.1 rfl), h2⟩
  · obtain ⟨C, h1, h2⟩ := h.t
    exact ⟨C, h1.fr hfr (fun e => (h.wo _ e.1).2.2.1 rfl), h2⟩
  · obtain ⟨C, h1, h2⟩ := h.en
    exact ⟨C, h1.fr hfr (fun e => (h.wo _ e.1).2.2.2.1 rfl), h2⟩
  · have e1 : (gs ++ [g]).length = k' := by rw [hk]; simp
    have e2 : (gs ++ [g]).flatMap gvC = gs.flatMap gvC ++ gvC g := by simp
    rw [e1, e2]; exact hown
  · rw [hq] at hat
    rcases hat with e | e
    · exact h.wo q e.symm
    · simp at e
      subst e
      exact ⟨hB, by omega, by omega, by omega, fun j hj e => by have := Two.lt (h.vt j hj); omega, fun j hj e => by have := Thr.lt (h.tt j hj _ e); omega⟩
/-- Where an election begins. -/
theorem Mem.start (w : World) (vb : Nat → Nat) (n : Nat) : Mem w.heap.size (((w.alloc (.cells #[.pointer none, .pointer none, .pointer none, .pointer none, .pointer none, .pointer none, .pointer none] 65)).alloc (.cells #[.pointer none, .pointer none, .pointer none, .pointer none, .pointer none, .pointer none, .pointer none] 67)).alloc (.cells #[.int .i64 0, .int .i64 0, .int .i64 0, .int .i64 0, .int .i64 0, .int .i64 0, .int .i64 0, .int .i64 0, .int .i64 0, .int .i64 0, .int .i64 0, .int .i64 0, .int .i64 0, .int .i64 0] 68)) w.heap.size (w.heap.size + 1) (w.heap.size + 2) n 0 ⟨vb, fun _ => 0, fun _ => -1, fun _ => none, fun _ => 0, fun _ => 0⟩ (fun _ => (0, 0)) (.slice none 0 0) [] := by
  have b1 := ((Blk.new w #[.pointer none, .pointer none, .pointer none, .pointer none, .pointer none, .pointer none, .pointer none] 65).fr (Fr.box _ (.cells #[.pointer none, .pointer none, .pointer none, .pointer none, .pointer none, .pointer none, .pointer none] 67)) (fun f => f)).fr (Fr.box _ (.cells #[.int .i64 0, .int .i64 0, .int .i64 0, .int .i64 0, .int .i64 0, .int .i64 0, .int .i64 0, .int .i64 0, .int .i64 0, .int .i64 0, .int .i64 0, .int .i64 0, .int .i64 0, .int .i64 0] 68)) (fun f => f)
  have b2 := (Blk.new (w.alloc (.cells #[.pointer none, .pointer none, .pointer none, .pointer none, .pointer none, .pointer none, .pointer none] 65)) #[.pointer none, .pointer none, .pointer none, .pointer none, .pointer none, .pointer none, .pointer none] 67).fr (Fr.box _ (.cells #[.int .i64 0, .int .i64 0, .int .i64 0, .int .i64 0, .int .i64 0, .int .i64 0, .int .i64 0, .int .i64 0, .int .i64 0, .int .i64 0, .int .i64 0, .int .i64 0, .int .i64 0, .int .i64 0] 68)) (fun f => f)
  have b3 := Blk.new ((w.alloc (.cells #[.pointer none, .pointer none, .pointer none, .pointer none, .pointer none, .pointer none, .pointer none] 65)).alloc (.cells #[.pointer none, .pointer none, .pointer none, .pointer none, .pointer none, .pointer none, .pointer none] 67)) #[.int .i64 0, .int .i64 0, .int .i64 0, .int .i64 0, .int .i64 0, .int .i64 0, .int .i64 0, .int .i64 0, .int .i64 0, .int .i64 0, .int .i64 0, .int .i64 0, .int .i64 0, .int .i64 0] 68
  simp only [World.size_alloc] at b2 b3
  refine ⟨⟨_, b1, rfl, fun i hi => by omega⟩, ⟨_, b2, rfl, fun i hi => ?_⟩, ⟨_, b3, rfl, fun i hi => ?_⟩, fun i hi => by omega, fun i hi => by omega, Has.nil _ _, by omega, fun i hi => by omega, fun i j hi => by omega, fun i hi => by omega, fun i j b hi => by omega, fun q hq => by cases hq⟩
  · match i, hi with
    | 0, _ => rfl
    | 1, _ => rfl
    | 2, _ => rfl
    | 3, _ => rfl
    | 4, _ => rfl
    | 5, _ => rfl
    | 6, _ => rfl
  · match i, hi with
    | 0, _ => exact ⟨rfl, rfl⟩
    | 1, _ => exact ⟨rfl, rfl⟩
    | 2, _ => exact ⟨rfl, rfl⟩
    | 3, _ => exact ⟨rfl, rfl⟩
    | 4, _ => exact ⟨rfl, rfl⟩
    | 5, _ => exact ⟨rfl, rfl⟩
    | 6, _ => exact ⟨rfl, rfl⟩
end
end Go.Proofs.Ytbfkacahaocpfaa
