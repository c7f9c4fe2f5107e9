
/- Where two logs part, and whether they are one line, as the statement asks it. -/
import Derived.Test.YtimpoincnfiibaaShCoM
import Derived.Test.YtimpoincnfiibaaShBoth
namespace Go.Proofs.Ytimpoincnfiibaa
open Go.RowKit Crcm

def PrtK (X Y : List Rec) (k : Nat) : Prop := ∀ (i j : Nat) (a b c d : Rec), i ≤ j → j < k → X[i]? = some a → Y[i]? = some b → X[j]? = some c → Y[j]? = some d → c.ep = d.ep → a.ep = b.ep
theorem ep_cell (w : World) (r : Rec) : (w.alloc (.cells #[.int .i64 r.lsn, .int .i64 r.ep, .int .i64 r.kind, .int .i64 r.page, .int .i64 r.other, .int .i64 r.req, .string r.key, .string r.val] 47)).cell? ⟨w.heap.size, 1, none⟩ = some (.int .i64 r.ep) := by
  rw [cell_of_row _ _ _ _ _ _ (heap_alloc_new w _)]; rfl
set_option maxRecDepth 100000 in
set_option maxHeartbeats 8000000 in
theorem parts_any (xb yb : Nat) (rv rw_ : Value) (X Y : List Rec) (w : World) (hx : Lg w xb rv X 0) (hy : Lg w yb rw_ Y 0) (wx : Wl X) (wy : Wl Y) : Calls Try.prog 6 #[.pointer (some ⟨xb, 0, none⟩), .pointer (some ⟨yb, 0, none⟩), .int .i64 (X.length : Int)] w fun e w' => ∃ b : Bool, e = .returned (.bool b) ∧ (b = true → Prt X Y) ∧ Fr (fun _ => False) w w' := by
  have HX : Hid (∀ W, Fr (fun _ => False) w W → Lg W xb rv X 0) := fun W f => hx.same f
  have HY : Hid (∀ W, Fr (fun _ => False) w W → Lg W yb rw_ Y 0) := fun W f => hy.same f
  have hbX := wx.big
  have hbY := wy.big
  clear hx hy wx wy
  go_enter Try.func6, Try.ntmps6
  go_wp2
  go_loopw [7, 8] (fun s i wr => ∃ (k : Nat) (sm : Bool), k ≤ X.length ∧ i = .int .i64 ((k : Int) + 1) ∧ s = .bool sm ∧ Hid (PrtK X Y k) ∧ Hid (sm = true → ∀ (i : Nat) (a b : Rec), i < k → X[i]? = some a → Y[i]? = some b → a.ep = b.ep) ∧ Hid (Fr (fun _ => False) w wr)) (fun _ i _ => X.length + 1 - (intOf i).toNat)
  case atStart => exact ⟨0, true, by omega, rfl, rfl, (fun i j a b c d h1 h2 => by omega), (fun _ i a b h => by omega), Fr.refl _ _⟩
  case round =>
    obtain ⟨k, sm, hk, rfl, rfl, HP, HS, HF⟩ := hrel
    by_cases hlt : k < X.length
    · have hlt' : (k : Int) + 1 ≤ (X.length : Int) := by omega
      obtain ⟨ra, hra⟩ : ∃ r, X[k]? = some r := ⟨_, List.getElem?_eq_getElem hlt⟩
      have g1 := get_lg ((k : Int) + 1) xb rv X 0 wr (HX.out _ HF.out) hbX
      rw [(gt_yes hra).1, (gt_yes hra).2] at g1
      go_wp2_with fail
      refine g1.mono ?_
      rintro e w1 ⟨rfl, f1⟩
      have fa := Fr.box w1 (.cells #[.int .i64 ra.lsn, .int .i64 ra.ep, .int .i64 ra.kind, .int .i64 ra.page, .int .i64 ra.other, .int .i64 ra.req, .string ra.key, .string ra.val] 47)
      have ca := ep_cell w1 ra
      have FA := HF.out.seq' (f1.seq' fa)
      have HFA : Hid (Fr (fun _ => False) w (w1.alloc (.cells #[.int .i64 ra.lsn, .int .i64 ra.ep, .int .i64 ra.kind, .int .i64 ra.page, .int .i64 ra.other, .int .i64 ra.req, .string ra.key, .string ra.val] 47))) := FA
      obtain ⟨W1, hW1⟩ : ∃ W, W = w1.alloc (.cells #[.int .i64 ra.lsn, .int .i64 ra.ep, .int .i64 ra.kind, .int .i64 ra.page, .int .i64 ra.other, .int .i64 ra.req, .string ra.key, .string ra.val] 47) := ⟨_, rfl⟩
      obtain ⟨ba, hba⟩ : ∃ b, b = w1.heap.size := ⟨_, rfl⟩
      have hlb : ba < W1.heap.size := by rw [hW1, hba]; simp
      rw [← hW1, ← hba] at ca
      rw [← hW1] at HFA
      have HW1 : Hid (w1.alloc (.cells #[.int .i64 ra.lsn, .int .i64 ra.ep, .int .i64 ra.kind, .int .i64 ra.page, .int .i64 ra.other, .int .i64 ra.req, .string ra.key, .string ra.val] 47) = W1) := hW1.symm
      have HBA : Hid (w1.heap.size = ba) := hba.symm
      have g2 := get_lg ((k : Int) + 1) yb rw_ Y 0 W1 (HY.out _ HFA.out) hbY
      clear g1 f1 fa FA hW1 hba
      by_cases hky : k < Y.length
      · obtain ⟨rb, hrb⟩ : ∃ r, Y[k]? = some r := ⟨_, List.getElem?_eq_getElem hky⟩
        rw [(gt_yes hrb).1, (gt_yes hrb).2] at g2
        go_wp2_with fail
        rw [HW1.out, HBA.out]
        refine g2.mono ?_
        rintro e w2 ⟨rfl, f2⟩
        have fb := Fr.box w2 (.cells #[.int .i64 rb.lsn, .int .i64 rb.ep, .int .i64 rb.kind, .int .i64 rb.page, .int .i64 rb.other, .int .i64 rb.req, .string rb.key, .string rb.val] 47)
        have cb := ep_cell w2 rb
        have ca2 := ((f2.seq' fb).cell (p := ⟨ba, 1, none⟩) hlb (fun f => f)).trans ca
        have HF3 : Hid (Fr (fun _ => False) w (w2.alloc (.cells #[.int .i64 rb.lsn, .int .i64 rb.ep, .int .i64 rb.kind, .int .i64 rb.page, .int .i64 rb.other, .int .i64 rb.req, .string rb.key, .string rb.val] 47))) := HFA.out.seq' (f2.seq' fb)
        clear ca f2 fb g2
        by_cases he : ra.ep = rb.ep
        · have he' : (ra.ep == rb.ep) = true := by simpa using he
          cases sm with
          | false =>
            go_wp2
            go_ret
            exact ⟨false, rfl, (fun h => by cases h), HF3.out⟩
          | true =>
            have HS2 : Hid (∀ (i : Nat) (a b : Rec), i < k + 1 → X[i]? = some a → Y[i]? = some b → a.ep = b.ep) := fun i a b hi ha hb => by
              by_cases hik : i = k
              · subst hik
                rw [hra] at ha; rw [hrb] at hb
                simp at ha hb
                rw [← ha, ← hb]; exact he
              · exact HS.out rfl i a b (by omega) ha hb
            go_wp2
            go_roundw
            case rel => exact ⟨k + 1, true, by omega, by simp, by simp, (fun i j a b c d h1 h2 ha hb hc hd _ => HS2.out i a b (by omega) ha hb), (fun _ => HS2.out), HF3⟩
            case measure => simp [intOf]; omega
        · have he' : (ra.ep == rb.ep) = false := by simpa using he
          have HP2 : Hid (PrtK X Y (k + 1)) := fun i j a b c d h1 h2 ha hb hc hd hcd => by
            by_cases hjk : j = k
            · subst hjk
              rw [hra] at hc; rw [hrb] at hd
              simp at hc hd
              rw [← hc, ← hd] at hcd
              exact absurd hcd he
            · exact HP.out i j a b c d h1 (by omega) ha hb hc hd hcd
          go_wp2
          go_roundw
          case rel => exact ⟨k + 1, false, by omega, by simp, by simp, HP2, (fun h => by cases h), HF3⟩
          case measure => simp [intOf]; omega
      · have hE : gtE Y ((k : Int) + 1) = 6 := (gt_no (by omega)).2
        rw [hE] at g2
        obtain ⟨rb, hrb⟩ : ∃ r, r = gtR Y ((k : Int) + 1) := ⟨_, rfl⟩
        rw [← hrb] at g2
        clear hE hrb
        go_wp2_with fail
        rw [HW1.out, HBA.out]
        refine g2.mono ?_
        rintro e w2 ⟨rfl, f2⟩
        have HF3 : Hid (Fr (fun _ => False) w (w2.alloc (.cells #[.int .i64 rb.lsn, .int .i64 rb.ep, .int .i64 rb.kind, .int .i64 rb.page, .int .i64 rb.other, .int .i64 rb.req, .string rb.key, .string rb.val] 47))) := HFA.out.seq' (f2.seq' (Fr.box _ _))
        go_wp2
        go_ret
        refine ⟨true, rfl, fun _ i j a b c d h1 ha hb hc hd he => ?_, HF3.out⟩
        have := (List.getElem?_eq_some_iff.1 hd).1
        exact HP.out i j a b c d h1 (by omega) ha hb hc hd he
    · have hlt' : ¬ ((k : Int) + 1 ≤ (X.length : Int)) := by omega
      have hlt'' : decide ((k : Int) + 1 ≤ (X.length : Int)) = false := decide_eq_false hlt'
      go_wp2
      go_ret
      refine .inr ⟨rfl, fun i j a b c d h1 ha hb hc hd he => ?_, HF.out⟩
      have := (List.getElem?_eq_some_iff.1 hc).1
      exact HP.out i j a b c d h1 (by omega) ha hb hc hd he
set_option maxRecDepth 100000 in
set_option maxHeartbeats 8000000 in
theorem line_any (xb yb : Nat) (rv rw_ : Value) (X Y : List Rec) (w : World) (hx : Lg w xb rv X 0) (hy : Lg w yb rw_ Y 0) (wx : Wl X) (wy : Wl Y) (hA : Agr X Y X.length) : Calls Try.prog 14 #[.pointer (some ⟨xb, 0, none⟩), .pointer (some ⟨yb, 0, none⟩), .int .i64 (X.length : Int)] w fun e w' => e = .returned (.bool true) ∧ Fr (fun _ => False) w w' := by
  have HX : Hid (∀ W, Fr (fun _ => False) w W → Lg W xb rv X 0) := fun W f => hx.same f
  have HY : Hid (∀ W, Fr (fun _ => False) w W → Lg W yb rw_ Y 0) := fun W f => hy.same f
  have HAG : Hid (Agr X Y X.length) := hA
  have hbX := wx.big
  have hbY := wy.big
  clear hx hy wx wy hA
  go_enter Try.func14, Try.ntmps14
  go_wp2
  go_loopw [7] (fun i wr => ∃ k : Nat, k ≤ X.length ∧ i = .int .i64 ((k : Int) + 1) ∧ Hid (Fr (fun _ => False) w wr)) (fun i _ => X.length + 1 - (intOf i).toNat)
  case atStart => exact ⟨0, by omega, rfl, Fr.refl _ _⟩
  case round =>
    obtain ⟨k, hk, rfl, HF⟩ := hrel
    by_cases hlt : k < X.length
    · have hlt' : (k : Int) + 1 ≤ (X.length : Int) := by omega
      obtain ⟨ra, hra⟩ : ∃ r, X[k]? = some r := ⟨_, List.getElem?_eq_getElem hlt⟩
      obtain ⟨rb, hrb⟩ : ∃ r, Y[k]? = some r := ⟨_, List.getElem?_eq_getElem (by have := HAG.out.2.1; omega)⟩
      have HE : Hid (ra.ep = rb.ep) := HAG.out.2.2 k ra rb hlt hra hrb
      have g1 := get_lg ((k : Int) + 1) xb rv X 0 wr (HX.out _ HF.out) hbX
      rw [(gt_yes hra).1, (gt_yes hra).2] at g1
      go_wp2_with fail
      refine g1.mono ?_
      rintro e w1 ⟨rfl, f1⟩
      have fa := Fr.box w1 (.cells #[.int .i64 ra.lsn, .int .i64 ra.ep, .int .i64 ra.kind, .int .i64 ra.page, .int .i64 ra.other, .int .i64 ra.req, .string ra.key, .string ra.val] 47)
      have ca := ep_cell w1 ra
      have HFA : Hid (Fr (fun _ => False) w (w1.alloc (.cells #[.int .i64 ra.lsn, .int .i64 ra.ep, .int .i64 ra.kind, .int .i64 ra.page, .int .i64 ra.other, .int .i64 ra.req, .string ra.key, .string ra.val] 47))) := HF.out.seq' (f1.seq' fa)
      obtain ⟨W1, hW1⟩ : ∃ W, W = w1.alloc (.cells #[.int .i64 ra.lsn, .int .i64 ra.ep, .int .i64 ra.kind, .int .i64 ra.page, .int .i64 ra.other, .int .i64 ra.req, .string ra.key, .string ra.val] 47) := ⟨_, rfl⟩
      obtain ⟨ba, hba⟩ : ∃ b, b = w1.heap.size := ⟨_, rfl⟩
      have hlb : ba < W1.heap.size := by rw [hW1, hba]; simp
      rw [← hW1, ← hba] at ca
      rw [← hW1] at HFA
      have HW1 : Hid (w1.alloc (.cells #[.int .i64 ra.lsn, .int .i64 ra.ep, .int .i64 ra.kind, .int .i64 ra.page, .int .i64 ra.other, .int .i64 ra.req, .string ra.key, .string ra.val] 47) = W1) := hW1.symm
      have HBA : Hid (w1.heap.size = ba) := hba.symm
      have g2 := get_lg ((k : Int) + 1) yb rw_ Y 0 W1 (HY.out _ HFA.out) hbY
      rw [(gt_yes hrb).1, (gt_yes hrb).2] at g2
      clear g1 f1 fa hW1 hba
      go_wp2_with fail
      rw [HW1.out, HBA.out]
      refine g2.mono ?_
      rintro e w2 ⟨rfl, f2⟩
      have fb := Fr.box w2 (.cells #[.int .i64 rb.lsn, .int .i64 rb.ep, .int .i64 rb.kind, .int .i64 rb.page, .int .i64 rb.other, .int .i64 rb.req, .string rb.key, .string rb.val] 47)
      have cb := ep_cell w2 rb
      have ca2 := ((f2.seq' fb).cell (p := ⟨ba, 1, none⟩) hlb (fun f => f)).trans ca
      have HF3 : Hid (Fr (fun _ => False) w (w2.alloc (.cells #[.int .i64 rb.lsn, .int .i64 rb.ep, .int .i64 rb.kind, .int .i64 rb.page, .int .i64 rb.other, .int .i64 rb.req, .string rb.key, .string rb.val] 47))) := HFA.out.seq' (f2.seq' fb)
      rw [HE.out] at ca2
      clear ca f2 fb g2
      go_wp2
      go_roundw
      case rel => exact ⟨k + 1, by omega, by simp, HF3⟩
      case measure => simp [intOf]; omega
    · have hlt' : ¬ ((k : Int) + 1 ≤ (X.length : Int)) := by omega
      have hlt'' : decide ((k : Int) + 1 ≤ (X.length : Int)) = false := decide_eq_false hlt'
      go_wp2
      go_ret
      exact ⟨rfl, HF.out⟩
end Go.Proofs.Ytimpoincnfiibaa
