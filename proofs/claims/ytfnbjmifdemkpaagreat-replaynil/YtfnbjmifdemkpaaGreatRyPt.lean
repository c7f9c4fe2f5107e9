
/- The consistent point; up to where all is done; whether there is a worker. -/
import Derived.Test.YtfnbjmifdemkpaaGreatRyNext
namespace Go.Proofs.YtfnbjmifdemkpaaGreat
open Go.RowKit Go.Shelf

def pointR (R : RSt) : Int := ((nextR R).map (·.2)).getD R.point
def doneR (R : RSt) : Int := match nextR R with
  | none => R.fed
  | some x => x.1.lsn - 1
section
variable {S : Nat → Prop} {b : Nat} {R : RSt} {N : Nat}
theorem ry_hasv (i : Int) (w : World) (h : Ry w S b R N) : Calls Tryz.prog 48 #[.pointer (some ⟨b, 0, none⟩), .int .i64 i] w fun e w' => e = .returned (.bool (decide (0 ≤ i ∧ i < R.wk))) ∧ w' = w := by
  have hc := ry_cnt w h
  by_cases h0 : 0 ≤ i
  · have h1 : ¬ i < 0 := by omega
    go_enter Tryz.func48, Tryz.ntmps48
    go_wp2_with (go_at_call 46; refine hc.mono ?_; rintro e w' ⟨rfl, hw⟩; subst hw)
    go_ret
    refine ⟨ret_bool ?_, rfl⟩
    first | (simp; omega) | simp [h0]
  · go_enter Tryz.func48, Tryz.ntmps48
    go_wp2_with (go_at_call 46; refine hc.mono ?_; rintro e w' ⟨rfl, hw⟩; subst hw)
    go_ret
    refine ⟨ret_bool ?_, rfl⟩
    first | (simp; omega) | simp [h0]
def PntO (w : World) (R : RSt) (e : Ending) (w' : World) : Prop := e = .returned (.tuple (if pointR R < R.top then #[.int .i64 0, .bool false] else #[.int .i64 (pointR R), .bool true])) ∧ Fr (fun _ => False) w w'
set_option maxRecDepth 100000 in
set_option maxHeartbeats 4000000 in
theorem ry_pointv (w : World) (h : Ry w S b R N) (hN : N ≤ 1000000) (hw1 : 1 ≤ R.wk) : Calls Tryz.prog 16 #[.pointer (some ⟨b, 0, none⟩)] w (PntO w R) := by
  have hc := ry_cnt w h
  have hn := ry_nextv w h hN
  unfold NxtO at hn
  have HR : Hid (∀ W, Fr (fun _ => False) w W → Ry W S b R N) := fun W f => h.same f
  obtain ⟨c18, c19, hb⟩ : w.cell? ⟨b, 18, none⟩ = some (.int .i64 R.fed) ∧ w.cell? ⟨b, 19, none⟩ = some (.int .i64 R.point) ∧ b < w.heap.size := by
    obtain ⟨_, _, _, _, _, hi⟩ := h
    obtain ⟨_, _, h18, h19, _, _, hb⟩ := hi.cell
    exact ⟨h18, h19, hb⟩
  have hwk : ((R.wk : Int) == 0) = false := by simp; omega
  have HTOP : Hid (∀ W, Fr (fun _ => False) w W → W.cell? ⟨b, 20, none⟩ = some (.int .i64 R.top) ∧ b < W.heap.size) := fun W f => by
    obtain ⟨_, _, _, _, _, hi⟩ := HR.out W f
    obtain ⟨_, _, _, _, h20, _, hb⟩ := hi.cell
    exact ⟨h20, hb⟩
  have HPT : Hid (∀ x, nextR R = some x → pointR R = x.2) := fun x hx => by unfold pointR; rw [hx]; rfl
  have HPN : Hid (nextR R = none → pointR R = R.point) := fun hx => by unfold pointR; rw [hx]; rfl
  clear h
  obtain ⟨acc, hacc⟩ : ∃ acc, acc = nextR R := ⟨_, rfl⟩
  rw [← hacc] at hn HPT HPN
  clear hacc
  cases acc with
  | none =>
    have hp := HPN.out rfl
    dsimp only [Option.getD, Option.isSome] at hn
    obtain ⟨p, hpp⟩ : ∃ p, p = R.point := ⟨_, rfl⟩
    rw [← hpp] at c19 hp
    have HPP : Hid (pointR R = p) := hp
    clear hp hpp
    go_enter Tryz.func16, Tryz.ntmps16
    go_wp2_with (go_at_call 46; refine hc.mono ?_; rintro e w ⟨rfl, hw⟩; subst hw)
    refine hn.mono ?_
    rintro e w2 ⟨rfl, f2⟩
    have F3 : Fr (fun _ => False) w (w2.alloc (.cells (wgA wgZ) 100)) := f2.seq' (Fr.box _ _)
    obtain ⟨c20, hb2⟩ := HTOP.out _ F3
    have HF3 : Hid (Fr (fun _ => False) w (w2.alloc (.cells (wgA wgZ) 100))) := F3
    unfold wgA wgZ at c20 hb2 HF3
    unfold wgV wgZ
    dsimp only at c20 hb2 HF3 ⊢
    clear hn hc f2 F3 c18 c19
    by_cases ht : p < R.top
    · have HT : Hid (p < R.top) := ht
      go_wp2
      go_ret2
      refine ⟨?_, HF3.out⟩
      rw [HPP.out, if_pos HT.out]
      rfl
    · have HT : Hid (¬ p < R.top) := ht
      have ht' : decide (p < R.top) = false := decide_eq_false ht
      go_wp2
      go_ret2
      refine ⟨?_, HF3.out⟩
      rw [HPP.out, if_neg (by have h := HT.out; omega)]
      rfl
  | some x =>
    have hp := HPT.out x rfl
    dsimp only [Option.getD, Option.isSome] at hn
    have HPP : Hid (pointR R = x.2) := hp
    clear hp
    go_enter Tryz.func16, Tryz.ntmps16
    go_wp2_with (go_at_call 46; refine hc.mono ?_; rintro e w ⟨rfl, hw⟩; subst hw)
    refine hn.mono ?_
    rintro e w2 ⟨rfl, f2⟩
    have F3 : Fr (fun _ => False) w (w2.alloc (.cells (wgA x) 100)) := f2.seq' (Fr.box _ _)
    obtain ⟨c20, hb2⟩ := HTOP.out _ F3
    have HF3 : Hid (Fr (fun _ => False) w (w2.alloc (.cells (wgA x) 100))) := F3
    obtain ⟨⟨lsn, ep, kind, page, other, req, key, val⟩, p⟩ := x
    unfold wgA at c20 hb2 HF3
    unfold wgV
    dsimp only at c20 hb2 HF3 HPP ⊢
    clear hn hc f2 F3 c18 c19
    by_cases ht : p < R.top
    · have HT : Hid (p < R.top) := ht
      go_wp2
      go_ret2
      refine ⟨?_, HF3.out⟩
      rw [HPP.out, if_pos HT.out]
      rfl
    · have HT : Hid (¬ p < R.top) := ht
      have ht' : decide (p < R.top) = false := decide_eq_false ht
      go_wp2
      go_ret2
      refine ⟨?_, HF3.out⟩
      rw [HPP.out, if_neg (by have h := HT.out; omega)]
      rfl
set_option maxRecDepth 100000 in
set_option maxHeartbeats 4000000 in
theorem ry_donev (w : World) (h : Ry w S b R N) (hN : N ≤ 1000000) (hx : ∀ x, nextR R = some x → 1 ≤ x.1.lsn ∧ x.1.lsn ≤ 1099511627776) : Calls Tryz.prog 20 #[.pointer (some ⟨b, 0, none⟩)] w fun e w' => e = .returned (.int .i64 (doneR R)) ∧ Fr (fun _ => False) w w' := by
  have hn := ry_nextv w h hN
  unfold NxtO at hn
  have HR : Hid (∀ W, Fr (fun _ => False) w W → Ry W S b R N) := fun W f => h.same f
  have HPT : Hid (∀ x, nextR R = some x → doneR R = x.1.lsn - 1) := fun x hx => by unfold doneR; rw [hx]
  have HPN : Hid (nextR R = none → doneR R = R.fed) := fun hx => by unfold doneR; rw [hx]
  clear h
  obtain ⟨acc, hacc⟩ : ∃ acc, acc = nextR R := ⟨_, rfl⟩
  rw [← hacc] at hn HPT HPN hx
  clear hacc
  cases acc with
  | none =>
    have hp := HPN.out rfl
    rw [hp]
    dsimp only [Option.getD, Option.isSome] at hn
    clear hp
    go_enter Tryz.func20, Tryz.ntmps20
    go_wp2_with fail
    refine hn.mono ?_
    rintro e w2 ⟨rfl, f2⟩
    have F3 : Fr (fun _ => False) w (w2.alloc (.cells (wgA wgZ) 100)) := f2.seq' (Fr.box _ _)
    have hfd := ry_fedv _ (HR.out _ F3)
    have HF3 : Hid (Fr (fun _ => False) w (w2.alloc (.cells (wgA wgZ) 100))) := F3
    unfold wgA wgZ at hfd HF3
    unfold wgV wgZ
    dsimp only at hfd HF3 ⊢
    clear hn f2 F3
    go_wp2_with (go_at_call 21; refine hfd.mono ?_; rintro e w' ⟨rfl, hw⟩; subst hw)
    go_ret
    exact ⟨rfl, HF3.out⟩
  | some x =>
    have hp := HPT.out x rfl
    obtain ⟨x1, x2⟩ := hx x rfl
    rw [hp]
    dsimp only [Option.getD, Option.isSome] at hn
    clear hp
    go_enter Tryz.func20, Tryz.ntmps20
    go_wp2_with fail
    refine hn.mono ?_
    rintro e w2 ⟨rfl, f2⟩
    have HF3 : Hid (Fr (fun _ => False) w (w2.alloc (.cells (wgA x) 100))) := f2.seq' (Fr.box _ _)
    obtain ⟨⟨lsn, ep, kind, page, other, req, key, val⟩, p⟩ := x
    unfold wgA at HF3
    unfold wgV
    dsimp only at HF3 x1 x2 ⊢
    clear hn f2
    go_wp2
    go_ret
    exact ⟨rfl, HF3.out⟩
end
end Go.Proofs.YtfnbjmifdemkpaaGreat
