/- Two slices beside a net: what was sent, and what came. -/
import Derived.Test.YtplkdjmajagpcaaNetBes
namespace Go.Proofs.Ytplkdjmajagpcaa
open Go.RowKit

/-- What a message says. -/
abbrev Say : Type := Int × Int × List Nat
def rc (x : Say) : List Value := [.int .i64 x.1, .int .i64 x.2.1, .string (strOf x.2.2)]
theorem rc_length (x : Say) : (rc x).length = 3 := rfl
theorem rc_one (x : Say) : ∀ u ∈ rc x, u.oneCell' = true := by
  intro u hu
  simp only [rc, List.mem_cons, List.not_mem_nil, or_false] at hu
  rcases hu with rfl | rfl | rfl <;> rfl
def bc (b : Bool) : List Value := [.bool b]
theorem bc_length (b : Bool) : (bc b).length = 1 := rfl
theorem bc_one (b : Bool) : ∀ u ∈ bc b, u.oneCell' = true := by
  intro u hu
  simp only [bc, List.mem_cons, List.not_mem_nil, or_false] at hu
  subst hu; rfl

structure B2 (w0 w : World) (nb : Nat) (nodes : Int) (nv : Value) (ms : List Msg) (sv : Value) (S : List Say) (cv : Value) (C : List Bool) : Prop where
  s : Beside w0 w nb nodes nv ms 3 sv S.length (S.flatMap rc)
  c : Beside w0 w nb nodes nv ms 1 cv C.length (C.flatMap bc)
  ne : ∀ k, sv.ownBlock = some k → cv.ownBlock ≠ some k
section
variable {w0 w W w' : World} {nb : Nat} {nodes : Int} {nv nv' : Value} {ms ms' : List Msg} {sv sv' cv cv' : Value} {S S' : List Say} {C C' : List Bool}
theorem B2.same (h : B2 w0 w nb nodes nv ms sv S cv C) (f : Fr (fun _ => False) w w') : B2 w0 w' nb nodes nv ms sv S cv C := ⟨h.s.same f, h.c.same f, h.ne⟩
theorem B2.go (h : B2 w0 w nb nodes nv ms sv S cv C) (k : Net w' nb nodes nv' ms') (f : Fr (netS nb nv) w w') (o : nv'.ownBlock = nv.ownBlock ∨ ∃ g, nv'.ownBlock = some g ∧ w.heap.size ≤ g)
    (hnew : ∀ m ∈ ms', m ∈ ms ∨ ∀ b off, m.a = some ⟨b, off, none⟩ → w.heap.size ≤ b) : B2 w0 w' nb nodes nv' ms' sv S cv C := ⟨h.s.go k f o hnew, h.c.go k f o hnew, h.ne⟩
theorem B2.growS {X : Prop} (h : B2 w0 w nb nodes nv ms sv S cv C) (F : Fr (fun _ => False) w W) (hfr : Fr (fun k => sv.ownBlock = some k ∧ X) W w') (hown : Has w' 3 sv' S'.length (S'.flatMap rc)) (hat : sv'.ownBlock = sv.ownBlock ∨ sv'.ownBlock = some W.heap.size) :
    B2 w0 w' nb nodes nv ms sv' S' cv C := by
  have h1 := h.s.grow F hfr hown hat
  refine ⟨h1, ⟨h1.net, (h.c.same F).has.fr hfr (fun k hk e => h.ne k e.1 hk), h.c.low, h.c.far, h.c.off⟩, fun k hk e => ?_⟩
  rcases hat with e2 | e2
  · exact h.ne k (by rw [← e2]; exact hk) e
  · rw [e2] at hk; simp at hk; have := (h.c.same F).has.lt e; omega
theorem B2.growC {X : Prop} (h : B2 w0 w nb nodes nv ms sv S cv C) (F : Fr (fun _ => False) w W) (hfr : Fr (fun k => cv.ownBlock = some k ∧ X) W w') (hown : Has w' 1 cv' C'.length (C'.flatMap bc)) (hat : cv'.ownBlock = cv.ownBlock ∨ cv'.ownBlock = some W.heap.size) :
    B2 w0 w' nb nodes nv ms sv S cv' C' := by
  have h1 := h.c.grow F hfr hown hat
  refine ⟨⟨h1.net, (h.s.same F).has.fr hfr (fun k hk e => h.ne k hk e.1), h.s.low, h.s.far, h.s.off⟩, h1, fun k hk e => ?_⟩
  rcases hat with e2 | e2
  · exact h.ne k hk (by rw [← e2]; exact e)
  · rw [e2] at e; simp at e; have := (h.s.same F).has.lt hk; omega
/-- One flag is set. -/
theorem B2.set (h : B2 w0 w nb nodes nv ms sv S cv C) {i : Nat} (hi : i < C.length) : ∃ g cap, cv = .slice (some ⟨g, 0, none⟩) C.length cap ∧ w.frozen? ⟨g, i, none⟩ = false ∧ w.cell? ⟨g, i, none⟩ = some (.bool (C.getD i false)) ∧
    ∀ b, B2 w0 (w.setCell ⟨g, i, none⟩ (.bool b)) nb nodes nv ms sv S cv (C.set i b) := by
  obtain ⟨g, cap, rfl, hg, hnc, hcm, hth, hra⟩ := h.c.has.form (by omega)
  have h1 := (h.c.has.elem bc_length (i := i) (x := C.getD i false) (by rw [List.getD_eq_getElem?_getD, List.getElem?_eq_getElem hi]; rfl)) 0 (.bool (C.getD i false)) rfl
  have h2 := (hth i (by omega)).2
  rw [Nat.mul_one, Nat.add_zero] at h1
  rw [Nat.zero_add] at h2
  refine ⟨g, cap, rfl, h2, h1, fun b => ?_⟩
  have F : Fr (fun k => k = g) w (w.setCell ⟨g, i, none⟩ (.bool b)) := (Fr.refl (fun k => k = g) w).setCell (p := ⟨g, i, none⟩) (fun _ => rfl) _
  have hp : Has (w.setCell ⟨g, i, none⟩ (.bool b)) 1 (.slice (some ⟨g, 0, none⟩) C.length cap) C.length ((C.set i b).flatMap bc) := by
    have := h.c.has.put bc_length hi b
    rw [Nat.mul_one] at this
    exact this
  have hfr : Fr (fun k => (Value.slice (some ⟨g, 0, none⟩) C.length cap).ownBlock = some k ∧ True) w (w.setCell ⟨g, i, none⟩ (.bool b)) := F.mono (fun k _ e => ⟨by rw [e]; rfl, trivial⟩)
  exact h.growC (Fr.refl _ w) hfr (by rw [List.length_set]; exact hp) (.inl rfl)
end

/-- What was sent and did not come. -/
def live : List Say → List Bool → List Say
  | x :: S, false :: C => x :: live S C
  | _ :: S, true :: C => live S C
  | _, _ => []
theorem live_snoc (S : List Say) (C : List Bool) (h : S.length = C.length) (x : Say) : live (S ++ [x]) (C ++ [false]) = live S C ++ [x] := by
  induction S generalizing C with
  | nil => cases C with
    | nil => rfl
    | cons => simp at h
  | cons y S ih => cases C with
    | nil => simp at h
    | cons b C =>
      cases b
      · show y :: live (S ++ [x]) (C ++ [false]) = y :: live S C ++ [x]
        rw [ih C (by simpa using h)]; rfl
      · show live (S ++ [x]) (C ++ [false]) = live S C ++ [x]
        exact ih C (by simpa using h)
/-- Marking one that did not come takes it away. -/
theorem live_mark (S : List Say) (C : List Bool) (i : Nat) (x : Say) (hs : S[i]? = some x) (hc : C[i]? = some false) : (live S C).Perm (x :: live S (C.set i true)) := by
  induction S generalizing C i with
  | nil => simp at hs
  | cons y S ih => cases C with
    | nil => simp at hc
    | cons b C =>
      cases i with
      | zero =>
        simp at hs hc
        subst hs hc
        exact List.Perm.refl _
      | succ i =>
        have := ih C i (by simpa using hs) (by simpa using hc)
        cases b
        · show (y :: live S C).Perm (x :: y :: live S (C.set i true))
          exact (this.cons y).trans (List.Perm.swap x y _)
        · exact this
theorem live_mem (S : List Say) (C : List Bool) (x : Say) (h : x ∈ live S C) : ∃ i : Nat, S[i]? = some x ∧ C[i]? = some false := by
  induction S generalizing C with
  | nil => cases C <;> simp [live] at h
  | cons y S ih => cases C with
    | nil => simp [live] at h
    | cons b C =>
      cases b
      · rcases List.mem_cons.1 (show x ∈ y :: live S C from h) with rfl | h1
        · exact ⟨0, rfl, rfl⟩
        · obtain ⟨i, h2, h3⟩ := ih C h1
          exact ⟨i + 1, by simpa using h2, by simpa using h3⟩
      · obtain ⟨i, h2, h3⟩ := ih C h
        exact ⟨i + 1, by simpa using h2, by simpa using h3⟩
theorem strOf_inj {l m : List Nat} (hl : octs l) (hm : octs m) (h : strOf l = strOf m) : l = m := by
  have := congrArg ByteArray.toList h
  rw [strOf_toList, strOf_toList] at this
  exact ofNat_inj hl hm this
theorem infoM : (Try.prog.info? 65).map (fun i => (i.zero, i.size, i.bytes)) = some (some (.agg #[.int .i64 0, .int .i64 0, .string ⟨#[]⟩]), 3, 32) := by kernel_rfl
theorem infoB : (Try.prog.info? 4).map (fun i => (i.zero, i.size, i.bytes)) = some (some (.bool false), 1, 1) := by kernel_rfl
end Go.Proofs.Ytplkdjmajagpcaa
