/- What key.Above tells, and what the document's own Above tells. -/
import Derived.Test.YtacgkoiejmbeiaaKBet
namespace Go.Proofs.Ytacgkoiejmbeiaa
open Go.RowKit

theorem bytes_cell (s : ByteArray) (c : Nat) (w : World) (t : TypeId) (fr : Nat × Nat) (j : Nat) (h : j < s.size) : (w.alloc (.cells (bytesRow s c) t fr)).cell? ⟨w.heap.size, j, none⟩ = some (.int .u8 ((bsOf s).getD j 0 : Nat)) := by
  rw [cell_of_row _ _ j _ t fr (heap_alloc_new w _)]
  unfold bytesRow
  rw [Array.getElem?_append_left (by simpa using h)]
  have h' : j < s.data.size := h
  rw [← bs_at s j h, Array.getElem?_map, Array.getElem?_eq_getElem h']
  rfl
theorem low_take (l : List Nat) (k : Nat) (h : k < l.length) : low (l.take (k + 1)) = if l.getD k 0 < 255 then k + 1 else low (l.take k) := by
  rw [take_snoc l k h, low_snoc]
  simp only [List.length_take, Nat.min_eq_left (Nat.le_of_lt h)]
/-- What Above tells. -/
def abv (s : ByteArray) : ByteArray := if low (bsOf s) = 0 then ⟨#[]⟩ else strOf (up (bsOf s))
def abvB (s : ByteArray) : Bool := decide (low (bsOf s) ≠ 0)
theorem abv_no {s : ByteArray} (h : low (bsOf s) = 0) : abv s = ⟨#[]⟩ ∧ abvB s = false := ⟨if_pos h, by simp [abvB, h]⟩
theorem abv_yes {s : ByteArray} (h : low (bsOf s) ≠ 0) : abv s = strOf (up (bsOf s)) ∧ abvB s = true := ⟨if_neg h, by simp [abvB, h]⟩
theorem ret_sb {a b : ByteArray} {x y : Bool} (h : a = b ∧ x = y) : Ending.returned (.tuple #[.string a, .bool x]) = .returned (.tuple #[.string b, .bool y]) := by rw [h.1, h.2]

/-- What '[]byte(..)' of a text's beginning lays. -/
theorem bytes_of (s : ByteArray) (p : Nat) (hs : s.size ≤ 140737488351232) (hp : p < s.size) (w : World) : ∃ cap C fr, (convert 9 43 (.string (s.extract 0 (p + 1)))).run Try.prog w = .ok (.slice (some ⟨w.heap.size, 0, none⟩) (p + 1) cap) (w.drew.alloc (.cells C 5 fr)) ∧
    p + 1 ≤ C.size ∧ p + 1 ≤ cap ∧ cap ≤ maxLen ∧ C.size < fr.1 + 1 ∧ fr.1 ≤ fr.2 ∧ ∀ j, j < p + 1 → C[j]? = some (.int .u8 ((bsOf s).getD j 0 : Nat)) := by
  have h := run_bytes_of_string (P := Try.prog) w 9 43 5 (s.extract 0 (p + 1)) Try.underlying9 Try.underlying43 Try.underlying5
  have hz : (s.extract 0 (p + 1)).size = p + 1 := by simp [ByteArray.size_extract]; omega
  rw [hz] at h
  have hC : ∀ c, p + 1 ≤ (bytesRow (s.extract 0 (p + 1)) c).size := fun c => by
    have : (s.extract 0 (p + 1)).data.size = p + 1 := hz
    simp only [bytesRow, Array.size_append, Array.size_map, this]; omega
  refine ⟨_, _, _, h, hC _, ?_, grownCap_le_maxLen _ _ _ _ (by unfold maxLen; omega), by simp, by simp, fun j hj => ?_⟩
  · exact grownCap_ge _ _ _ _
  · unfold bytesRow
    have hz' : (s.extract 0 (p + 1)).data.size = p + 1 := hz
    rw [Array.getElem?_append_left (by simp only [Array.size_map, hz']; exact hj), Array.getElem?_map, Array.getElem?_eq_getElem (by rw [hz']; exact hj)]
    have := bs_at (s.extract 0 (p + 1)) j (by rw [hz]; exact hj)
    rw [bs_extract] at this
    have e : ((bsOf s).take (p + 1)).getD j 0 = (bsOf s).getD j 0 := by
      rw [List.getD_eq_getElem?_getD, List.getD_eq_getElem?_getD, List.getElem?_take, if_pos hj]
    rw [e] at this
    rw [← this]; rfl

set_option maxRecDepth 100000 in
set_option maxHeartbeats 1000000 in
theorem above_any (s : ByteArray) (hs : s.size ≤ 140737488351232) (w : World) :
    Calls Try.prog 21 #[.string s] w fun e w' => e = .returned (.tuple #[.string (abv s), .bool (abvB s)]) ∧ Fr (fun _ => False) w w' := by
  go_enter Try.func21, Try.ntmps21
  go_wp2
  go_loop [9, 4, 5] (fun i t _ => ∃ k m : Nat, k ≤ s.size ∧ m ≤ k ∧ i = .int .i64 k ∧ t = .int .i64 m ∧ Hid (m = low ((bsOf s).take k))) (fun i _ _ => s.size - (intOf i).toNat)
  case atStart => exact ⟨0, 0, by omega, by omega, rfl, rfl, rfl⟩
  case round =>
    obtain ⟨k, m, hk, hm, rfl, rfl, HM⟩ := hrel
    by_cases h1 : k < s.size
    · have HB : Hid (s[k].toNat = (bsOf s).getD k 0) := bs_at s k h1
      have HT := low_take (bsOf s) k (by rw [bsOf_length]; exact h1)
      have HT' : Hid (low ((bsOf s).take (k + 1)) = if (bsOf s).getD k 0 < 255 then k + 1 else low ((bsOf s).take k)) := HT
      clear HT
      go_wp2
      · have HX : (s[k].toNat : Int) < 255 := by assumption
        go_round
        case rel => exact ⟨k + 1, k + 1, by omega, by omega, by go_num, by go_num, by show _ = _; rw [HT'.out, if_pos (by rw [← HB.out]; omega)]⟩
        case measure => simp [intOf]; omega
      · have HX : ¬ (s[k].toNat : Int) < 255 := by first | assumption | (have : (255 : Int) ≤ (s[k].toNat : Int) := by assumption); omega
        go_round
        case rel => exact ⟨k + 1, m, by omega, by omega, by go_num, rfl, by show _ = _; rw [HT'.out, if_neg (by rw [← HB.out]; omega), ← HM.out]⟩
        case measure => simp [intOf]; omega
    · have e : k = s.size := by omega
      subst e
      have em : m = low (bsOf s) := by rw [HM.out, List.take_of_length_le (by rw [bsOf_length]; omega)]
      have EM : Hid (m = low (bsOf s)) := em
      clear em HM
      by_cases h0 : m = 0
      · have h00 : ((m : Int) == 0) = true := by simp [h0]
        have H0 : Hid (low (bsOf s) = 0) := by show _ = _; rw [← EM.out]; exact h0
        clear h0
        go_wp2
        go_ret2
        exact ⟨ret_sb ⟨(abv_no H0.out).1.symm, (abv_no H0.out).2.symm⟩, Fr.refl _ _⟩
      · have h00 : ((m : Int) == 0) = false := by simp; omega
        have H0 : Hid (low (bsOf s) ≠ 0) := by show _ ≠ _; rw [← EM.out]; exact h0
        obtain ⟨p, rfl⟩ : ∃ p, m = p + 1 := ⟨m - 1, by omega⟩
        obtain ⟨cap, C, fr, cv, hC, hcap, hcm, hfr, hfr2, hat⟩ := bytes_of s p hs (by omega) w
        have hx := hat p (by omega)
        have hxl := low_at (bsOf s) H0.out
        have hup : up (bsOf s) = (bsOf s).take p ++ [(bsOf s).getD p 0 + 1] := by unfold up; rw [← EM.out]; rfl
        rw [← EM.out, Nat.add_sub_cancel] at hxl
        obtain ⟨x, hxx⟩ : ∃ x, x = (bsOf s).getD p 0 := ⟨_, rfl⟩
        rw [← hxx] at hx hxl hup
        have cell : (w.alloc (.cells C 5 fr)).cell? ⟨w.heap.size, p, none⟩ = some (.int .u8 (x : Int)) := by
          rw [cell_of_row _ _ p _ 5 fr (heap_alloc_new w _)]; exact hx
        have free : (w.alloc (.cells C 5 fr)).frozen? ⟨w.heap.size, p, none⟩ = false := by
          rw [show fr = (fr.1, fr.2) from rfl, World.frozen?_alloc_mark]; simp; omega
        have hr : Row (((w.alloc (.cells C 5 fr)).setCell ⟨w.heap.size, p, none⟩ (.int .u8 ((x : Int) + 1))).drew) (some ⟨w.heap.size, 0, none⟩) cap (up (bsOf s)) := by
          have hlen : (up (bsOf s)).length = p + 1 := by rw [hup]; simp [bsOf_length]; omega
          refine ⟨by omega, by unfold maxLen at hcm; omega, by omega, ?_, .inr ⟨w.heap.size, 0, rfl, by simp, fun i hi => ?_⟩⟩
          · rw [hup]; intro y hy
            rcases List.mem_append.mp hy with h | h
            · exact octs_take (bsOf_octs s) p y h
            · simp at h; omega
          · rw [hlen] at hi
            rw [World.cell?_drew, Nat.zero_add, hup]
            by_cases hip : i = p
            · rw [hip, World.cell?_setCell_same _ _ _ cell, List.getD_eq_getElem?_getD, List.getElem?_append_right (by simp; omega)]
              simp [bsOf_length, show min p s.size = p by omega]
            · rw [World.cell?_setCell_other _ _ _ _ (by simp), cell_of_row _ _ i _ 5 fr (heap_alloc_new w _), hat i (by omega), List.getD_eq_getElem?_getD, List.getD_eq_getElem?_getD, List.getElem?_append_left (by simp [bsOf_length]; omega), List.getElem?_take, if_pos (by omega)]
        have cv2 := run_str (P := Try.prog) (src := 43) (dst := 9) Try.underlying43 Try.underlying5 Try.underlying9 hr (p + 1) (by rw [hup]; simp [bsOf_length]; omega)
        clear hx hxx hat hfr hfr2 hup
        go_wp2
        go_ret2
        exact ⟨ret_sb ⟨(abv_yes H0.out).1.symm, (abv_yes H0.out).2.symm⟩, (((Fr.refl _ w).alloc _).setCell (fun h => absurd h (by simp)) _).drew⟩

theorem row_one (w : World) (x : Nat) (z : Int) (hx : x < 256) (hz : z = (x : Int)) : Row (w.alloc (.cells #[.int .u8 z] 5)) (some ⟨w.heap.size, 0, none⟩) 1 [x] := by
  subst hz
  refine ⟨by simp, by omega, by simp, (fun y hy => by simp at hy; omega), .inr ⟨w.heap.size, 0, rfl, by simp, fun i hi => ?_⟩⟩
  have : i = 0 := by simpa using hi
  subst this
  simp
theorem up_at (l : List Nat) (k : Nat) (h : low l = k + 1) : up l = l.take k ++ [l.getD k 0 + 1] := by unfold up; rw [h]; rfl

set_option maxRecDepth 100000 in
set_option maxHeartbeats 1000000 in
theorem rabove_any (s : ByteArray) (hs : s.size ≤ 140737488351232) (w : World) :
    Calls Try.prog 22 #[.string s] w fun e w' => e = .returned (.tuple #[.string (abv s), .bool (abvB s)]) ∧ Fr (fun _ => False) w w' := by
  obtain ⟨i0, hi, hz0, hz1, hz2⟩ := info_parts info8
  go_enter Try.func22, Try.ntmps22
  go_wp2
  go_loop [4] (fun i => ∃ k : Nat, k ≤ s.size ∧ i = .int .i64 ((k : Int) - 1) ∧ Hid (∀ j, k ≤ j → j < s.size → 255 ≤ (bsOf s).getD j 0)) (fun i => (intOf i + 1).toNat)
  case atStart => exact ⟨s.size, by omega, rfl, (fun j h1 h2 => by omega)⟩
  case round =>
    obtain ⟨k, hk, rfl, HE⟩ := hrel
    by_cases h0 : k = 0
    · subst h0
      have H0 : Hid (low (bsOf s) = 0) := low_none _ (fun j hj => HE.out j (by omega) (by rw [bsOf_length] at hj; exact hj))
      go_wp2
      go_ret2
      exact ⟨ret_sb ⟨(abv_no H0.out).1.symm, (abv_no H0.out).2.symm⟩, Fr.refl _ _⟩
    · obtain ⟨p, rfl⟩ : ∃ p, k = p + 1 := ⟨k - 1, by omega⟩
      have ep : (((p + 1 : Nat) : Int) - 1) = (p : Int) := by omega
      rw [ep]
      clear h0 ep
      have h1 : p < s.size := by omega
      have HB : Hid (s[p].toNat = (bsOf s).getD p 0) := bs_at s p h1
      have hsz : (s.extract 0 p).size = p := by simp [ByteArray.size_extract]; omega
      obtain ⟨t, ht⟩ : ∃ t, t = (bsOf s).take p := ⟨_, rfl⟩
      have HL : Hid (t.length = p) := by show _ = _; rw [ht]; simp [bsOf_length]; omega
      have HT : Hid (t = (bsOf s).take p) := ht
      have HP : Hid (∀ j, p + 1 ≤ j → j < s.size → 255 ≤ (bsOf s).getD j 0) := HE
      clear ht HE
      have hsz' : Hid ((s.extract 0 p).size = p) := hsz
      go_wp2_with (first
        | (at_builtin; refine wpList_append_str _ rfl (.tmp 17) (.tmp 20) 43 9 rfl i0 Try.underlying43 Try.underlying9 hi hz0 hz1 hz2 w.heap.size (.slice none 0 0) [] rfl (World.ownsRow_nil _ _ _ _) (s.extract 0 p) rfl (by simp; omega) (Nat.le_refl _) ?_; intro a2 c2 w2 hown2 hgrow2 hat2; have m2 : Mine w2 w.heap.size (.slice a2 p c2) t := (by rw [HT.out]; simpa [hsz, bs_extract] using hown2); have f2 : Fr (fun _ => False) w w2 := (Fr.refl _ w).grown hgrow2 (fun k e => by cases e); clear hown2 hat2)
        | (at_builtin; refine wpList_append_row _ rfl (.tmp 22) (.tmp 27) 43 43 5 rfl i0 Try.underlying43 Try.underlying43 hi hz0 hz1 hz2 w.heap.size (.slice a2 p c2) t rfl (m2.alloc _) (some ⟨w2.heap.size, 0, none⟩) 1 1 [s[p].toNat + 1] rfl rfl (row_one w2 (s[p].toNat + 1) _ ?hx ?hz) ?hb ?hs ?_))
      case hx => have : (s[p].toNat : Int) < 255 := by assumption
                 omega
      case hb => have := HL.out; simp; omega
      case hs => have := f2.size; simp; omega
      · intro a3 c3 w3 m3 hgrow3 hat3
        have hx : (s[p].toNat : Int) < 255 := by assumption
        have f3 : Fr (fun _ => False) w w3 := (f2.alloc _).grown hgrow3 (fun k e hk => by have := (m2.lt k e).1; omega)
        obtain ⟨y, hy⟩ : ∃ y, y = s[p].toNat + 1 := ⟨_, rfl⟩
        have hlow : low (bsOf s) = p + 1 := low_is _ p (by rw [bsOf_length]; exact h1) (by rw [← HB.out]; omega) (fun j h2 h3 => HP.out j (by omega) (by rw [bsOf_length] at h3; exact h3))
        have HU : Hid (up (bsOf s) = t ++ [y]) := by show _ = _; rw [up_at _ p hlow, HT.out, hy, HB.out]
        have H0 : Hid (low (bsOf s) ≠ 0) := by show _ ≠ _; omega
        have hoc : octs (t ++ [y]) := fun z hz => by
          rcases List.mem_append.mp hz with h | h
          · rw [HT.out] at h; exact octs_take (bsOf_octs s) p z h
          · simp at h; omega
        have hll : t.length + 1 = p + 1 := by rw [HL.out]
        rw [← hy] at m3
        obtain ⟨a4, c4, he4, hr3⟩ := m3.row hoc (by simp; have := HL.out; omega)
        have e1 : (t ++ [y]).length = p + 1 := by simp; exact HL.out
        have e2 : t.length + 1 = p + 1 := by rw [HL.out]
        rw [e1, e2] at he4
        simp only [Value.slice.injEq, true_and] at he4
        obtain ⟨rfl, rfl⟩ := he4
        have cv2 := run_str (P := Try.prog) (src := 43) (dst := 9) Try.underlying43 Try.underlying5 Try.underlying9 hr3 (p + 1) e1.symm
        rw [e2]
        clear m3 hgrow3 hat3 hlow hy hll e1 e2 hr3 m2 hgrow2 hoc
        go_wp2
        go_ret2
        exact ⟨ret_sb ⟨by rw [(abv_yes H0.out).1, HU.out], (abv_yes H0.out).2.symm⟩, f3⟩
      · have hx : ¬ (s[p].toNat : Int) < 255 := by first | assumption | (have : (255 : Int) ≤ (s[p].toNat : Int) := by assumption); omega
        refine ⟨⟨p, by omega, rfl, fun j h2 h3 => ?_⟩, by simp [intOf]⟩
        rcases Nat.lt_or_ge p j with h | h
        · exact HP.out j (by omega) h3
        · have e : j = p := by omega
          rw [e, ← HB.out]; omega
end Go.Proofs.Ytacgkoiejmbeiaa
