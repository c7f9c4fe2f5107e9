
/- latticelaw11.speaks answers true. -/
import Derived.Test.YtneniagingoleaaPlRest
namespace Go.Proofs.Ytneniagingoleaa
open Go.RowKit

def sp0 : Pmap := fun _ => none
def sp1 : Pmap := upd sp0 1 (some ⟨1, 0, 0, 1⟩)
def sp2 : Pmap := upd sp1 1 (some ⟨1, 7, 7, 1⟩)
def sp3 : Pmap := upd sp2 1 (some ⟨0, 7, 7, 1⟩)
def sp4 : Pmap := upd (upd sp3 1 none) 2 (some ⟨1, 0, 0, 2⟩)
theorem up1 : up 1 = 2 := by decide
theorem dn1 : dn 1 = 0 := by decide
theorem sp3_at {r : Int} {g : Hd} (h : sp3 r = some g) : r = 1 ∧ g = ⟨0, 7, 7, 1⟩ := by
  unfold sp3 sp2 sp1 sp0 upd at h
  by_cases e : r = 1
  · subst e; simp at h; exact ⟨rfl, h.symm⟩
  · simp [e] at h
theorem sp4_at {r : Int} {g : Hd} (h : sp4 r = some g) : r = 2 ∧ g = ⟨1, 0, 0, 2⟩ := by
  unfold sp4 sp3 sp2 sp1 sp0 upd at h
  by_cases e : r = 2
  · subst e; simp at h; exact ⟨rfl, h.symm⟩
  · by_cases e1 : r = 1
    · subst e1; simp at h
    · simp [e, e1] at h
theorem get1 {hit wr : Bool} {out need er us' fl' : Int} {M' : Pmap} {n' : Nat} (h : GetO sp0 0 1 0 0 1 hit wr out need er M' n' us' fl') : er = 0 ∧ M' = sp1 ∧ n' = 1 ∧ us' = 1 ∧ fl' = 0 := by
  rcases h with h | h | h | h | h
  · omega
  · obtain ⟨_, g, h, _⟩ := h; cases h
  · obtain ⟨_, _, _, _, _, _, _, e1, e2, e3, e4, e5⟩ := h
    rw [up0] at e2 e4
    exact ⟨e1, e2, e3, e4, e5⟩
  · omega
  · omega
theorem get2 {hit wr : Bool} {out need er us' fl' : Int} {M' : Pmap} {n' : Nat} (h : GetO sp3 1 1 1 0 2 hit wr out need er M' n' us' fl') : hit = false ∧ wr = true ∧ out = 1 ∧ need = 7 ∧ er = 0 ∧ M' = sp4 ∧ n' = 1 ∧ us' = 2 ∧ fl' = 7 := by
  have hn : sp3 2 = none := by
    cases hm : sp3 2 with
    | none => rfl
    | some g => have := (sp3_at hm).1; omega
  rcases h with h | h | h | h | h
  · omega
  · obtain ⟨_, g, h, _⟩ := h; rw [hn] at h; cases h
  · omega
  · obtain ⟨_, _, _, h, _⟩ := h
    exact absurd rfl (h 1 ⟨0, 7, 7, 1⟩ rfl)
  · obtain ⟨_, _, _, r, g, hr, _, _, e1, e2, e3, e4, e5, e6, e7, e8, e9⟩ := h
    obtain ⟨rfl, rfl⟩ := sp3_at hr
    rw [up1] at e6 e8
    exact ⟨e1, e2, e3, e4, e5, e6, e7, e8, e9⟩
theorem get3 {hit wr : Bool} {out need er us' fl' : Int} {M' : Pmap} {n' : Nat} (h : GetO sp4 1 1 2 7 3 hit wr out need er M' n' us' fl') : er = 5 ∧ M' = sp4 ∧ n' = 1 ∧ us' = 2 ∧ fl' = 7 := by
  have hn : sp4 3 = none := by
    cases hm : sp4 3 with
    | none => rfl
    | some g => have := (sp4_at hm).1; omega
  rcases h with h | h | h | h | h
  · omega
  · obtain ⟨_, g, h, _⟩ := h; rw [hn] at h; cases h
  · omega
  · obtain ⟨_, _, _, _, _, _, _, _, e1, e2, e3, e4, e5⟩ := h
    exact ⟨e1, e2, e3, e4, e5⟩
  · obtain ⟨_, _, _, r, g, hr, hp, _⟩ := h
    obtain ⟨rfl, rfl⟩ := sp4_at hr
    exact absurd hp (by decide)
theorem di1 : diE sp1 1 7 = 0 ∧ diM sp1 1 7 = sp2 := by
  have h : sp1 1 = some ⟨1, 0, 0, 1⟩ := rfl
  have e1 : diE sp1 1 7 = 0 := by unfold diE pinE; rw [h]; decide
  refine ⟨e1, ?_⟩
  unfold diM
  rw [if_pos e1]
  unfold pinH
  rw [h]
  rfl
theorem un1 : pinE sp2 1 = 0 ∧ unM sp2 1 = sp3 := by
  have h : sp2 1 = some ⟨1, 7, 7, 1⟩ := rfl
  have e1 : pinE sp2 1 = 0 := by unfold pinE; rw [h]; decide
  refine ⟨e1, ?_⟩
  unfold unM
  rw [if_pos e1]
  unfold pinH
  rw [h]
  show upd sp2 1 (some ⟨dn 1, 7, 7, 1⟩) = _
  rw [dn1]
  rfl
set_option maxRecDepth 100000 in
set_option maxHeartbeats 2000000 in
theorem pspeaks_any (w : World) : Calls Try.prog 9 #[] w fun e w' => e = .returned (.bool true) ∧ Fr (fun _ => False) w w' := by
  have w1k : wfK 1 := wfK_of (by omega)
  have w2k : wfK 2 := wfK_of (by omega)
  have w3k : wfK 3 := wfK_of (by omega)
  have hnw := pnew_yes w 1 (by omega)
  obtain ⟨mb, hmb⟩ : ∃ mb, mb = w.heap.size := ⟨_, rfl⟩
  have HMB : Hid (mb = w.heap.size) := hmb
  rw [← hmb] at hnw
  clear hmb
  have HF : Hid (∀ {a b c : World}, Fr (fun _ => False) w a → Fr (plS (mb + 1) mb) a b → Fr (fun _ => False) w b) := fun F f => F.trans f (fun i hi e => by have := HMB.out; rcases e with e | e <;> omega)
  have HF2 : Hid (∀ {a b : World}, Fr (fun _ => False) w a → Fr (fun k => k = mb) a b → Fr (fun _ => False) w b) := fun F f => F.trans f (fun i hi e => by have := HMB.out; omega)
  go_enter Try.func9, Try.ntmps9
  go_wp2_with fail
  refine hnw.mono ?_
  clear hnw
  rintro e wa ⟨rfl, ha, fa⟩
  go_wp2_with fail
  refine (get_pl (mb + 1) 1 mb 0 0 0 sp0 wa 1 w1k (by omega) ha).mono ?_
  rintro e wb ⟨h1, h2, h3, h4, h5, M1, n1, u1, l1, rfl, hg, hb, fb⟩
  obtain ⟨rfl, rfl, rfl, rfl, rfl⟩ := get1 hg
  have Fb := HF.out (c := w) fa fb
  have xb := Fr.box wb (.cells #[.bool h1, .bool h2, .int .i64 h3, .int .i64 h4] 43)
  have hdi := dirty_pl (mb + 1) 1 mb 1 1 0 sp1 _ 1 7 w1k (by omega) (hb.same xb)
  rw [di1.1, di1.2] at hdi
  clear hg ha fa hb
  go_wp2_with fail
  refine hdi.mono ?_
  clear hdi
  rintro e wc ⟨rfl, hc, fc⟩
  have Fc := HF2.out (Fb.seq' xb) fc
  have hun := unpin_pl (mb + 1) 1 mb 1 1 0 sp2 wc 1 w1k (by omega) hc
  rw [un1.1, un1.2] at hun
  clear xb fb Fb fc
  go_wp2_with fail
  refine hun.mono ?_
  clear hun
  rintro e wd ⟨rfl, hd, fd⟩
  have Fd := HF2.out Fc fd
  clear hc fd Fc
  go_wp2_with fail
  refine (get_pl (mb + 1) 1 mb 1 1 0 sp3 wd 2 w2k (by omega) hd).mono ?_
  rintro e we ⟨g1, g2, g3, g4, g5, M2, n2, u2, l2, rfl, hg, he, fe⟩
  obtain ⟨rfl, rfl, rfl, rfl, rfl, rfl, rfl, rfl, rfl⟩ := get2 hg
  have Fe := HF.out (c := w) Fd fe
  have xe := Fr.box we (.cells #[.bool false, .bool true, .int .i64 1, .int .i64 7] 43)
  have he2 := he.same xe
  have hx := heap_alloc_new we (.cells #[.bool false, .bool true, .int .i64 1, .int .i64 7] 43)
  obtain ⟨cb, hcb⟩ : ∃ cb, cb = we.heap.size := ⟨_, rfl⟩
  have HCB : Hid (we.heap.size = cb) := hcb.symm
  rw [← hcb] at hx
  have hcw : mb + 1 < cb := by rw [hcb]; exact lt_of_block he.box
  clear hg hd fe Fd he hcb
  go_wp2_with fail
  refine (get_pl (mb + 1) 1 mb 1 2 7 sp4 _ 3 w3k (by omega) he2).mono ?_
  rintro e wf ⟨k1, k2, k3, k4, k5, M3, n3, u3, l3, rfl, hg, hf, ff⟩
  obtain ⟨rfl, rfl, rfl, rfl, rfl⟩ := get3 hg
  have Ff := HF.out (c := w) (Fe.seq' xe) ff
  have hx2 := ff.keep hx (fun e => by rcases e with e | e <;> omega)
  have xf := Fr.box wf (.cells #[.bool k1, .bool k2, .int .i64 k3, .int .i64 k4] 43)
  have hx3 := xf.keep hx2 (fun f => f)
  have hpi := pins_pl (mb + 1) 1 mb 1 2 7 sp4 _ 2 w2k (hf.same xf)
  rw [show ((sp4 2).getD h0).pins = 1 from rfl] at hpi
  rw [HCB.out]
  obtain ⟨⟨c0, c1, c2, c3⟩, zc⟩ := four_cells hx3
  clear zc hg he2 hx hx2 hx3 hf ff Fe xe
  go_wp2_with (go_at_call 16; refine hpi.mono ?_; rintro e w' ⟨rfl, rfl⟩)
  go_ret
  exact ⟨rfl, Ff.seq' xf⟩
end Go.Proofs.Ytneniagingoleaa
