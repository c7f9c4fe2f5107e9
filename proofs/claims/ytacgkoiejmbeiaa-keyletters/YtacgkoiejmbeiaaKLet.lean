/- What key.Letters tells, and what the document's own Letters tells. -/
import Derived.Test.YtacgkoiejmbeiaaKLMath
import Derived.Laws.RangeAny
import Derived.Laws.Concat
import Derived.Test.YtacgkoiejmbeiaaKBet
namespace Go.Proofs.Ytacgkoiejmbeiaa
open Go.RowKit

set_option maxHeartbeats 400000 in
theorem hasPre_any (s t : ByteArray) (w : World) :
    Calls Try.prog 30 #[.string s, .string t] w fun e w' => e = .returned (.bool (decide (t.size ≤ s.size ∧ (s.extract 0 t.size).toList = t.toList))) ∧ w' = w := by
  obtain ⟨x, hx⟩ : ∃ x, x = ((s.extract 0 t.size).toList == t.toList) := ⟨_, rfl⟩
  have hx' : ((s.extract 0 t.size).toList == t.toList) = x := hx.symm
  by_cases h : t.size ≤ s.size
  · have h2 : (t.size : Int) ≤ (s.size : Int) := by omega
    have HX : Hid (decide (t.size ≤ s.size ∧ (s.extract 0 t.size).toList = t.toList) = x) := by
      show _ = _
      rw [hx, Bool.eq_iff_iff]; simp [h]
    rw [HX.out]
    clear hx
    go_enter Try.func30, Try.ntmps30
    go_wp2
    go_ret
    exact ⟨rfl, rfl⟩
  · have h2 : decide ((t.size : Int) ≤ (s.size : Int)) = false := by simp; omega
    have HX : Hid (decide (t.size ≤ s.size ∧ (s.extract 0 t.size).toList = t.toList) = false) := by
      show _ = _
      simp [h]
    rw [HX.out]
    clear hx
    go_enter Try.func30, Try.ntmps30
    go_wp2
    go_ret
    exact ⟨rfl, rfl⟩
/-- Whether the wrong byte's own letter stands there. -/
theorem pre_ffd (s : ByteArray) (p : Nat) (hp : p ≤ s.size) : ((ByteArray.mk #[239, 191, 189]).size ≤ (s.extract p s.size).size ∧ ((s.extract p s.size).extract 0 (ByteArray.mk #[239, 191, 189]).size).toList = (ByteArray.mk #[239, 191, 189]).toList) ↔
    (3 ≤ s.size - p ∧ (bsOf s).getD p 0 = 239 ∧ (bsOf s).getD (p + 1) 0 = 191 ∧ (bsOf s).getD (p + 2) 0 = 189) := by
  have e3 : (ByteArray.mk #[239, 191, 189]).size = 3 := rfl
  have es : (s.extract p s.size).size = s.size - p := by simp [ByteArray.size_extract]
  have eb : ((s.extract p s.size).extract 0 3).toList = (ByteArray.mk #[239, 191, 189]).toList ↔ bsOf ((s.extract p s.size).extract 0 3) = [239, 191, 189] := by
    have : bsOf (ByteArray.mk #[239, 191, 189]) = [239, 191, 189] := by decide +kernel
    rw [← this, Lib.toList_data, Lib.toList_data]
    constructor
    · intro h; unfold bsOf; rw [h]
    · intro h; rw [bs_inj h]
  rw [e3, es, eb, bs_extract]
  have ed : bsOf (s.extract p s.size) = (bsOf s).drop p := by
    unfold bsOf
    rw [Lib.extract_data, List.map_take, List.map_drop, List.take_of_length_le (by simp)]
  rw [ed]
  refine and_congr_right fun h => ?_
  have g : ∀ k, k < 3 → ((bsOf s).drop p)[k]? = some ((bsOf s).getD (p + k) 0) := fun k hk => by
    rw [List.getElem?_drop, List.getD_eq_getElem?_getD, List.getElem?_eq_getElem (by rw [bsOf_length]; omega)]; rfl
  obtain ⟨a, b, c, r, hr⟩ : ∃ a b c r, (bsOf s).drop p = a :: b :: c :: r := by
    have hl : ((bsOf s).drop p).length = s.size - p := by rw [List.length_drop, bsOf_length]
    match (bsOf s).drop p, hl with
    | [], hl => simp at hl; omega
    | [_], hl => simp at hl; omega
    | [_, _], hl => simp at hl; omega
    | a :: b :: c :: r, _ => exact ⟨a, b, c, r, rfl⟩
  rw [hr] at g ⊢
  have g0 := g 0 (by omega); have g1 := g 1 (by omega); have g2 := g 2 (by omega)
  simp at g0 g1 g2
  simp [g0, g1, g2]

theorem ret_ib2 {a b : Int} {x y : Bool} (h : a = b) (k : x = y) : Ending.returned (.tuple #[.int .i64 a, .bool x]) = .returned (.tuple #[.int .i64 b, .bool y]) := by rw [h, k]
theorem Fr.iter {S : Nat → Prop} {a w : World} (h : Fr S a w) (s : ByteArray) (p : Nat) : Fr S a (w.iter s p) := h.alloc _

set_option maxRecDepth 100000 in
set_option maxHeartbeats 1000000 in
theorem letters_any (s : ByteArray) (hs : s.size ≤ 281474976710656) (w : World) :
    Calls Try.prog 25 #[.string s] w fun e w' => e = .returned (.tuple #[.int .i64 ((lts (bsOf s)).1 : Nat), .bool (lts (bsOf s)).2]) ∧ Fr (fun _ => False) w w' := by
  go_enter Try.func25, Try.ntmps25
  go_wp2
  go_loopw [4, 5, 6, 7] (fun c r _ _ wr => ∃ (p n : Nat) (ok : Bool), p ≤ s.size ∧ n ≤ p ∧ c = .int .i64 n ∧ r = .bool ok ∧ wr = w.iter s p ∧ Hid (lts (bsOf s) = (n + (lts ((bsOf s).drop p)).1, ok && (lts ((bsOf s).drop p)).2))) (fun _ _ _ _ wr => s.size - wr.iterPos w.heap.size)
  case atStart => exact ⟨0, 0, true, by omega, by omega, rfl, rfl, rfl, by show _ = _; simp⟩
  case round =>
    obtain ⟨p, n, ok, hp, hn, rfl, rfl, rfl, HL⟩ := hrel
    by_cases hlt : p < s.size
    · have hne : (bsOf s).drop p ≠ [] := by
        intro e; have := congrArg List.length e; rw [List.length_drop, bsOf_length] at this; simp at this; omega
      have hg := lts_go _ hne
      have hst := stp_le _ hne
      have hsp := stp_pos ((bsOf s).drop p)
      rw [List.drop_drop] at hg
      rw [List.length_drop, bsOf_length] at hst
      have hd := decode_ltr s p
      have hpf := pre_ffd s p hp
      have hnx := run_next_any (P := Try.prog) w s p
      rw [hd.1] at hnx
      have hd2 := hd.2
      rw [← hpf] at hd2
      obtain ⟨q, hq⟩ : ∃ q, q = stp ((bsOf s).drop p) := ⟨_, rfl⟩
      obtain ⟨r, hr⟩ : ∃ q, q = (Utf8.decode s p).1 := ⟨_, rfl⟩
      rw [← hq] at hg hst hsp hnx
      rw [← hr] at hd2 hnx
      have HG : Hid (lts ((bsOf s).drop p) = ((lts ((bsOf s).drop (p + q))).1 + 1, decide (ltr ((bsOf s).drop p) ≠ 0) && (lts ((bsOf s).drop (p + q))).2)) := hg
      have HD : Hid (ltr ((bsOf s).drop p) = 0 ↔ (r = 65533 ∧ ¬ ((ByteArray.mk #[239, 191, 189]).size ≤ (s.extract p s.size).size ∧ ((s.extract p s.size).extract 0 (ByteArray.mk #[239, 191, 189]).size).toList = (ByteArray.mk #[239, 191, 189]).toList))) := hd2
      clear hg hd hpf hq hr hd2 hne
      have hnx' := fun ty => hnx ty hlt
      clear hnx
      obtain ⟨b, hb⟩ : ∃ b, b = decide ((ByteArray.mk #[239, 191, 189]).size ≤ (s.extract p s.size).size ∧ ((s.extract p s.size).extract 0 (ByteArray.mk #[239, 191, 189]).size).toList = (ByteArray.mk #[239, 191, 189]).toList) := ⟨_, rfl⟩
      have HP := fun w => hasPre_any (s.extract p s.size) ⟨#[239, 191, 189]⟩ w
      rw [← hb] at HP
      have HB : Hid (ltr ((bsOf s).drop p) = 0 ↔ (r = 65533 ∧ b = false)) := by
        show _ ↔ _
        rw [HD.out, hb]; simp
      clear HD hb
      by_cases hr : r = 65533
      · have hr2 : ((r : Int) == 65533) = true := by simp [hr]
        have HR : Hid (r = 65533) := hr
        clear hr
        go_wp2_with fail
        refine (HP _).mono ?_
        rintro e w1 ⟨rfl, rfl⟩
        cases b with
        | true =>
          go_wp2
          go_roundw
          case rel =>
            refine ⟨p + q, n + 1, ok, by omega, by omega, by go_num, rfl, rfl, ?_⟩
            show _ = _
            rw [HL.out, HG.out]
            have hz : ltr ((bsOf s).drop p) ≠ 0 := fun h => by have := HB.out.mp h; exact absurd this.2 (by simp)
            simp [hz]; omega
          case measure => simp [World.iterPos_iter]; omega
        | false =>
          go_wp2
          go_roundw
          case rel =>
            refine ⟨p + q, n + 1, false, by omega, by omega, by go_num, rfl, rfl, ?_⟩
            show _ = _
            rw [HL.out, HG.out]
            have hz : ltr ((bsOf s).drop p) = 0 := HB.out.mpr (by first | exact ⟨HR.out, rfl⟩ | exact ⟨HR.out, trivial⟩)
            simp [hz]; omega
          case measure => simp [World.iterPos_iter]; omega
      · have hr2 : ((r : Int) == 65533) = false := by simp; omega
        have HR : Hid (r ≠ 65533) := hr
        clear hr
        go_wp2
        go_roundw
        case rel =>
          refine ⟨p + q, n + 1, ok, by omega, by omega, by go_num, rfl, rfl, ?_⟩
          show _ = _
          rw [HL.out, HG.out]
          have hz : ltr ((bsOf s).drop p) ≠ 0 := fun h => by have := HB.out.mp h; exact HR.out this.1
          simp [hz]; omega
        case measure => simp [World.iterPos_iter]; omega
    · have e : p = s.size := by omega
      subst e
      have hnx := run_next_end (P := Try.prog) w s s.size
      have hnx' := fun ty => hnx ty (by omega)
      clear hnx
      have HE : Hid (lts (bsOf s) = (n, ok)) := by
        show _ = _
        rw [HL.out, List.drop_of_length_le (by rw [bsOf_length]; omega), lts_nil]; simp
      clear HL
      go_wp2
      go_ret2
      exact ⟨ret_ib2 (by rw [HE.out]) (by rw [HE.out]), (Fr.refl _ _).iter _ _⟩
end Go.Proofs.Ytacgkoiejmbeiaa
