
/- The document's log in memory; what its small functions tell. -/
import Derived.Test.YtimpoincnfiibaaShWlFrom
namespace Go.Proofs.Ytimpoincnfiibaa
open Go.RowKit Crcm

/-- The document's log at block lb whose records lie in rv. -/
structure Rlg (w : World) (lb : Nat) (rv : Value) (ls : List Rec) (fl : Int) : Prop where
  box : w.heap[lb]? = some (.cells #[rv, .int .i64 fl] 45 (0, 0))
  has : Has w 8 rv ls.length (ls.flatMap recC)
  own : ∀ g, rv.ownBlock = some g → lb < g
theorem Rlg.fr {S : Nat → Prop} {w w' : World} {lb : Nat} {rv : Value} {ls : List Rec} {fl : Int} (h : Rlg w lb rv ls fl) (f : Fr S w w') (h1 : ¬ S lb) (h2 : ∀ k, rv.ownBlock = some k → ¬ S k) : Rlg w' lb rv ls fl :=
  ⟨by rw [f.block lb (lt_of_block h.box) h1]; exact h.box, h.has.fr f h2, h.own⟩
theorem Rlg.same {w w' : World} {lb : Nat} {rv : Value} {ls : List Rec} {fl : Int} (h : Rlg w lb rv ls fl) (f : Fr (fun _ => False) w w') : Rlg w' lb rv ls fl := h.fr f (fun f => f) (fun _ _ f => f)
theorem Rlg.push {w W w1 : World} {lb : Nat} {rv rv' : Value} {ls ls' : List Rec} {fl : Int} (h : Rlg w lb rv ls fl) (F : Fr (fun _ => False) w W) (f : Fr (fun k => rv.ownBlock = some k ∧ 0 < 1) W w1) (hh : Has w1 8 rv' ls'.length (ls'.flatMap recC)) (hat : rv'.ownBlock = rv.ownBlock ∨ rv'.ownBlock = some W.heap.size) :
    Rlg (w1.setCell ⟨lb, 0, none⟩ rv') lb rv' ls' fl ∧ Fr (lgS lb rv) w (w1.setCell ⟨lb, 0, none⟩ rv') ∧ (rv'.ownBlock = rv.ownBlock ∨ ∃ g, rv'.ownBlock = some g ∧ w.heap.size ≤ g) := by
  have hlt := lt_of_block h.box
  have hs := F.size
  have hb : w1.heap[lb]? = some (.cells #[rv, .int .i64 fl] 45 (0, 0)) := by
    rw [f.block lb (by omega) (fun e => by have := h.own lb e.1; omega), F.block lb hlt (fun f => f)]; exact h.box
  have fs : Fr (fun k => k = lb) w1 (w1.setCell ⟨lb, 0, none⟩ rv') := (Fr.refl (fun k => k = lb) w1).setCell (p := ⟨lb, 0, none⟩) (fun _ => rfl) _
  have own' : ∀ g, rv'.ownBlock = some g → lb < g := fun g e => by
    rcases hat with h1 | h1
    · rw [h1] at e; exact h.own g e
    · rw [h1] at e; simp only [Option.some.injEq] at e; omega
  refine ⟨⟨two_setCell0 hb, hh.fr fs (fun g e e2 => by have := own' g e; omega), own'⟩, ((F.mono (fun _ _ f => f.elim)).trans f (fun i _ e => .inr e.1)).trans fs (fun i _ e => .inl e), ?_⟩
  rcases hat with h1 | h1
  · exact .inl h1
  · exact .inr ⟨_, h1, hs⟩
theorem Rlg.flush {w : World} {lb : Nat} {rv : Value} {ls : List Rec} {fl : Int} (h : Rlg w lb rv ls fl) (x : Int) : Rlg (w.setCell ⟨lb, 1, none⟩ (.int .i64 x)) lb rv ls x ∧ Fr (fun k => k = lb) w (w.setCell ⟨lb, 1, none⟩ (.int .i64 x)) := by
  have fs : Fr (fun k => k = lb) w (w.setCell ⟨lb, 1, none⟩ (.int .i64 x)) := (Fr.refl (fun k => k = lb) w).setCell (p := ⟨lb, 1, none⟩) (fun _ => rfl) _
  exact ⟨⟨two_setCell1 h.box, h.has.fr fs (fun g e e2 => by have := h.own g e; omega), h.own⟩, fs⟩

set_option maxRecDepth 100000 in
set_option maxHeartbeats 1000000 in
theorem rlast_lg (lb : Nat) (rv : Value) (ls : List Rec) (fl : Int) (w : World) (h : Rlg w lb rv ls fl) (hm : ls.length ≤ 65536) : Calls Try.prog 28 #[.pointer (some ⟨lb, 0, none⟩)] w fun e w' => e = .returned (.tuple #[.int .i64 (ls.length : Int), .int .i64 (lastE ls)]) ∧ Fr (fun _ => False) w w' := by
  obtain ⟨h0, h1, f0, f1⟩ := cell_of_two h.box
  by_cases hn : ls.length = 0
  · have hl : ls = [] := List.length_eq_zero_iff.1 hn
    have hle : lastE ls = 0 := by rw [hl]; rfl
    rw [hle]
    obtain ⟨a, c, rfl, _, _⟩ := h.has.slice
    rw [hn] at h0 ⊢
    clear hl hle hn
    go_enter Try.func28, Try.ntmps28
    go_wp2
    go_ret2
    exact ⟨rfl, Fr.refl _ _⟩
  · obtain ⟨g, cap, rfl, hg, hnc, hcm, _, _⟩ := h.has.form (by omega)
    obtain ⟨r, hr⟩ : ∃ r, ls[ls.length - 1]? = some r := ⟨_, List.getElem?_eq_getElem (by omega)⟩
    obtain ⟨q0, q1, q2, q3, q4, q5, q6, q7⟩ := rec_range (h.has.elem recC_length hr)
    have HE : Hid (lastE ls = r.ep) := lastE_at hr
    rw [HE.out]
    obtain ⟨n, hn0⟩ : ∃ n, ls.length = n + 1 := ⟨ls.length - 1, by omega⟩
    rw [hn0] at h0 hm hnc q0 q1 q2 q3 q4 q5 q6 q7 ⊢
    simp only [Nat.add_sub_cancel] at q0 q1 q2 q3 q4 q5 q6 q7
    have hnz : ((n : Int) + 1 == 0) = false := by rw [beq_eq_false_iff_ne]; omega
    have e1 : IntKind.i64.wrap ((n : Int) + 1 - 1) = (n : Int) := by simp [IntKind.wrap, IntKind.bits, IntKind.signed]; omega
    have i0 : (0 : Int) ≤ (n : Int) := by omega
    have i1 : (n : Int) < (n : Int) + 1 := by omega
    have i2 : wrap64 (n : Int) = (n : Int) := by unfold wrap64; omega
    have i3 : IntKind.i64.wrap (n : Int) = (n : Int) := by simp [IntKind.wrap, IntKind.bits, IntKind.signed]; omega
    clear hn0 hr hn HE h
    go_enter Try.func28, Try.ntmps28
    go_wp2_with fail
    go_quiet (fail)
    go_wp2
    go_ret2
    exact ⟨rfl, Fr.drewN (Fr.refl _ _) _⟩

/-- The record of an LSN, or none. -/
def gtR (ls : List Rec) (n : Int) : Rec := if 1 ≤ n ∧ n ≤ ls.length then (ls[(n - 1).toNat]?).getD zr else zr
def gtE (ls : List Rec) (n : Int) : Int := if 1 ≤ n ∧ n ≤ ls.length then 0 else 6
theorem gt_no {ls : List Rec} {n : Int} (h : ¬ (1 ≤ n ∧ n ≤ ls.length)) : gtR ls n = zr ∧ gtE ls n = 6 := ⟨if_neg h, if_neg h⟩
theorem gt_yes {ls : List Rec} {k : Nat} {r : Rec} (h : ls[k]? = some r) : gtR ls ((k : Int) + 1) = r ∧ gtE ls ((k : Int) + 1) = 0 := by
  have hk := (List.getElem?_eq_some_iff.1 h).1
  have hc : 1 ≤ (k : Int) + 1 ∧ (k : Int) + 1 ≤ ls.length := by omega
  refine ⟨?_, if_pos hc⟩
  unfold gtR
  rw [if_pos hc, show ((k : Int) + 1 - 1).toNat = k by omega, h]; rfl

set_option maxRecDepth 100000 in
set_option maxHeartbeats 1000000 in
theorem get_lg (n : Int) (lb : Nat) (rv : Value) (ls : List Rec) (fl : Int) (w : World) (h : Lg w lb rv ls fl) (hm : ls.length ≤ 65536) : Calls Try.prog 18 #[.pointer (some ⟨lb, 0, none⟩), .int .i64 n] w fun e w' => e = .returned (.tuple #[(.agg #[.int .i64 (gtR ls n).lsn, .int .i64 (gtR ls n).ep, .int .i64 (gtR ls n).kind, .int .i64 (gtR ls n).page, .int .i64 (gtR ls n).other, .int .i64 (gtR ls n).req, .string (gtR ls n).key, .string (gtR ls n).val]), .int .i64 (gtE ls n)]) ∧ Fr (fun _ => False) w w' := by
  have fb := Fr.box w (.cells #[.int .i64 0, .int .i64 0, .int .i64 0, .int .i64 0, .int .i64 0, .int .i64 0, .string ⟨#[]⟩, .string ⟨#[]⟩] 47)
  have hb := h.same fb
  obtain ⟨h0, h1, f0, f1⟩ := cell_of_two hb.box
  have hre := reaches_lg n lb rv ls fl _ hb hm
  by_cases hn : 1 ≤ n ∧ n ≤ ls.length
  · rw [decide_eq_true (by omega)] at hre
    obtain ⟨k, rfl⟩ : ∃ k : Nat, n = (k : Int) + 1 := ⟨(n - 1).toNat, by omega⟩
    have hk : k < ls.length := by omega
    obtain ⟨r, hr⟩ : ∃ r, ls[k]? = some r := ⟨_, List.getElem?_eq_getElem hk⟩
    obtain ⟨e1, e2⟩ := gt_yes hr
    rw [e1, e2]
    obtain ⟨g, cap, rfl, hg, hnc, hcm, _, _⟩ := hb.has.form (by omega)
    obtain ⟨q0, q1, q2, q3, q4, q5, q6, q7⟩ := rec_range (hb.has.elem recC_length hr)
    have d1 : ((k : Int) + 1 == 0) = false := by rw [beq_eq_false_iff_ne]; omega
    have w1 : IntKind.i64.wrap ((k : Int) + 1 - 1) = (k : Int) := by simp [IntKind.wrap, IntKind.bits, IntKind.signed]; omega
    have i0 : (0 : Int) ≤ (k : Int) := by omega
    have i1 : (k : Int) < (ls.length : Int) := by omega
    have hne : g ≠ w.heap.size := fun e => by
      have h3 := h.has.lt (k := g) (by rfl)
      omega
    clear hn hr e1 e2 hb
    go_enter Try.func18, Try.ntmps18
    go_wp2_with (go_at_call 30; refine hre.mono ?_; rintro e w' ⟨rfl, rfl⟩)
    refine bodyPost_ret (v := .tuple #[(.agg #[.int .i64 r.lsn, .int .i64 r.ep, .int .i64 r.kind, .int .i64 r.page, .int .i64 r.other, .int .i64 r.req, .string r.key, .string r.val]), .int .i64 0]) (by simp [results, Try.results18, go_sem]) rfl ⟨rfl, ?_⟩
    exact Fr.box w _
  · obtain ⟨e1, e2⟩ := gt_no hn
    rw [e1, e2, zr_agg]
    by_cases h1 : n = 0
    · subst h1
      clear e1 e2 hn
      go_enter Try.func18, Try.ntmps18
      go_wp2
      refine bodyPost_ret (v := .tuple #[.agg #[.int .i64 0, .int .i64 0, .int .i64 0, .int .i64 0, .int .i64 0, .int .i64 0, .string ⟨#[]⟩, .string ⟨#[]⟩], .int .i64 6]) (by simp [results, Try.results18, go_sem]) rfl ⟨rfl, ?_⟩
      exact Fr.box w _
    · have d1 : (n == 0) = false := by rw [beq_eq_false_iff_ne]; exact h1
      rw [decide_eq_false (by omega)] at hre
      clear e1 e2 hn h1
      go_enter Try.func18, Try.ntmps18
      go_wp2_with (go_at_call 30; refine hre.mono ?_; rintro e w' ⟨rfl, rfl⟩)
      refine bodyPost_ret (v := .tuple #[.agg #[.int .i64 0, .int .i64 0, .int .i64 0, .int .i64 0, .int .i64 0, .int .i64 0, .string ⟨#[]⟩, .string ⟨#[]⟩], .int .i64 6]) (by simp [results, Try.results18, go_sem]) rfl ⟨rfl, ?_⟩
      exact Fr.box w _
end Go.Proofs.Ytimpoincnfiibaa
