
/- What the document's own Seal and Open do. -/
import Derived.Test.YtbfkacahaocpfaaSpeak
namespace Go.Proofs.Ytbfkacahaocpfaa
open Go.RowKit Crcm

set_option maxRecDepth 100000 in
set_option maxHeartbeats 1000000 in
theorem refSeal_any (a : Option Addr) (n cap : Nat) (l : List Nat) (hn : n = l.length) (hsm : l.length + 4 ≤ 140737488355328) (w : World) (hr : Row w a cap l) :
    Calls Try.prog 34 #[.slice a n cap] w fun e w' => ∃ v', e = .returned v' ∧ Made w w' v' (l ++ le4 (crc l)) := by
  obtain ⟨i0, hi, hz0, hz1, hz2⟩ := info_parts info8
  subst hn
  have hcl := crc_lt hr.byte
  go_enter Try.func34, Try.ntmps34
  go_wp2_with (at_builtin; refine wpList_append_row _ rfl _ _ 24 24 5 rfl i0 Try.underlying24 Try.underlying24 hi hz0 hz1 hz2 w.heap.size (.slice none 0 0) [] rfl (World.ownsRow_nil _ _ _ _) a l.length cap l rfl rfl hr (by simp; omega) (Nat.le_refl _) ?_; intro a1 c1 w1 hown1 hgrow1 hat1)
  have hm1 : Mine w1 w.heap.size (.slice a1 l.length c1) l := by simpa using hown1
  have f1 : Fr (fun _ => False) w w1 := Fr.ofGrown hgrow1
  clear hown1 hat1
  refine (refSum_any a l.length cap l rfl _ (hr.same f1)).mono ?_
  rintro e w2 ⟨rfl, rfl⟩
  obtain ⟨cv, hcv⟩ : ∃ cv, cv = crc l := ⟨_, rfl⟩
  rw [← hcv] at hcl ⊢
  have HC : Hid (crc l = cv) := hcv.symm
  clear hcv
  go_wp2_with fail
  refine (refNum_any cv 4 (by omega) (by omega) _).mono ?_
  rintro e w3 ⟨v3, rfl, m3⟩
  obtain ⟨a3, c3, hv3, hr3⟩ := m3.own.row (le_octs 4 cv) (by simp [le_length])
  rw [le_length] at hv3
  rw [hv3]
  have hm3 : Mine w3 w.heap.size (.slice a1 l.length c1) l := hm1.fr m3.fr (fun _ _ f => f)
  have f3 : Fr (fun _ => False) w w3 := f1.false_trans m3.fr
  have hs3 := f3.size
  have hl4 := le_length 4 cv
  clear hv3 m3 hm1 hgrow1
  go_wp2_with (at_builtin; refine wpList_append_row _ rfl _ _ 24 24 5 rfl i0 Try.underlying24 Try.underlying24 hi hz0 hz1 hz2 w.heap.size (.slice a1 l.length c1) l rfl hm3 a3 4 c3 (le 4 cv) hl4.symm rfl hr3 (by omega) hs3 ?_; intro a6 c6 w6 hown6 hgrow6 hat6)
  go_ret
  refine ⟨_, rfl, ?_, f3.fresh hgrow6 (fun k e => (hm3.lt k e).1)⟩
  rw [HC.out, ← le_le4]
  rw [hl4] at hown6
  exact hown6

set_option maxRecDepth 100000 in
set_option maxHeartbeats 400000 in
theorem refOpen_cut (a : Option Addr) (n cap : Nat) (hn : n < 4) (w : World) :
    Calls Try.prog 37 #[.slice a n cap] w fun e w' => e = .returned (.tuple #[.slice none 0 0, .int .i64 10]) ∧ w' = w := by
  have h4 : (n : Int) - 4 < 0 := by omega
  go_enter Try.func37, Try.ntmps37
  go_wp2
  go_ret2
  exact ⟨rfl, rfl⟩

theorem Row.drew {w : World} {a : Option Addr} {cap : Nat} {l : List Nat} (h : Row w a cap l) : Row w.drew a cap l := h.same (Fr.refl (fun _ => False) w).drew

set_option maxRecDepth 100000 in
set_option maxHeartbeats 2000000 in
theorem refOpen_any (a : Option Addr) (n k cap : Nat) (l : List Nat) (hn : n = l.length) (hk : n = k + 4) (w : World) (hr : Row w a cap l) :
    Calls Try.prog 37 #[.slice a n cap] w fun e w' => ((le 4 (crc (l.take k)) = l.drop k ∧ ∃ b off, a = some ⟨b, off, none⟩ ∧ e = .returned (.tuple #[.slice (some ⟨b, off, none⟩) k cap, .int .i64 0])) ∨ (le 4 (crc (l.take k)) ≠ l.drop k ∧ e = .returned (.tuple #[.slice none 0 0, .int .i64 20]))) ∧ Fr (fun _ => False) w w' := by
  subst hk
  have hsm := hr.small
  have hle := hr.le
  have hmx := hr.max
  have h4 : ¬ ((k : Int) + 4 < 4) := by omega
  have htl : (l.take k).length = k := by simp; omega
  have hdl : (l.drop k).length = 4 := by simp; omega
  obtain ⟨b, off, rfl, hb, hc⟩ : ∃ b off, a = some ⟨b, off, none⟩ ∧ b < w.heap.size ∧ ∀ i, i < l.length → w.cell? ⟨b, off + i, none⟩ = some (.int .u8 ((l.getD i 0 : Nat) : Int)) := by
    rcases hr.at_ with e | e
    · rw [e] at hn; simp at hn
    · exact e
  have hrd : Row w (some ⟨b, off + k, none⟩) (cap - k) (l.drop k) := hr.drop k (by omega) (off + k) (.inr rfl) (.inr ⟨hb, hc⟩)
  have hrt := hr.take k
  have hcl := crc_lt hrt.byte
  obtain ⟨t, ht⟩ : ∃ t, t = l.drop k := ⟨_, rfl⟩
  obtain ⟨m, hm⟩ : ∃ m, m = l.take k := ⟨_, rfl⟩
  rw [← ht] at hdl hrd ⊢
  rw [← hm] at htl hrt hcl ⊢
  have HN : Hid (k + 4 = l.length) := hn
  have hkc : k + 4 ≤ cap := by omega
  have hk47 : k ≤ 140737488355328 := by omega
  clear ht hm hc hr hn
  have q1 : (k : Int) ≤ (cap : Int) := by omega
  have q0 : (0 : Int) ≤ (k : Int) := by omega
  have q3 : (k : Int) ≤ (k : Int) + 4 := by omega
  have q2 : ¬ cap = k := by omega
  go_enter Try.func37, Try.ntmps37
  go_wp2
  have hcv := fun (W : World) (h : Fr (fun _ => False) w W) => run_str (P := Try.prog) (src := 24) (dst := 9) Try.underlying24 Try.underlying5 Try.underlying9 (hrd.same h) 4 hdl.symm
  have fd : Fr (fun _ => False) w w.drew := (Fr.refl (fun _ => False) w).drew
  go_region_with (first
    | (go_at_call 47; refine (refSum_any (some ⟨b, off, none⟩) k cap m htl.symm _ ?_).mono ?_; exact hrt.drew; rintro e w' ⟨rfl, rfl⟩)
    | (go_at_call 33; refine (refNum_any (crc m) 4 (by omega) (by omega) _).mono ?_; rintro e w3 ⟨v3, rfl, m3⟩; obtain ⟨a3, c3, hv3, hr3⟩ := m3.own.row (le_octs 4 (crc m)) (by simp [le_length]); rw [le_length] at hv3; rw [hv3]; have f3 := fd.false_trans m3.fr; have hcv3 := run_str (P := Try.prog) (src := 24) (dst := 9) Try.underlying24 Try.underlying5 Try.underlying9 hr3 4 (by simp [le_length])))
  all_goals
    go_wp2
    · have hne : (!(strOf t).toList == (strOf (le 4 (crc m))).toList) = true := by assumption
      rw [str_eq hrd.byte (le_octs 4 (crc m))] at hne
      go_ret2
      exact ⟨.inr ⟨fun e => by rw [e] at hne; simp at hne, rfl⟩, f3⟩
    · have heq : (!(strOf t).toList == (strOf (le 4 (crc m))).toList) = false := by assumption
      rw [str_eq hrd.byte (le_octs 4 (crc m))] at heq
      have he : t = le 4 (crc m) := by simpa using heq
      go_ret2
      exact ⟨.inl ⟨he.symm, b, off, rfl, rfl⟩, f3⟩
end Go.Proofs.Ytbfkacahaocpfaa
