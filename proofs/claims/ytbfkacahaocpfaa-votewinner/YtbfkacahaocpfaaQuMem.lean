
/- The nodes of a set, what two sets have in common, whether one is a majority; the document's own answers. -/
import Derived.Test.YtbfkacahaocpfaaQuBase
namespace Go.Proofs.Ytbfkacahaocpfaa
open Go.RowKit
open Go.Proofs.Ytbfkacahaocpfaa.Qu

/-- The nodes of a set below k. -/
def mems (a : Int) (k : Nat) : List Int := ((List.range k).filter (inB a)).map Int.ofNat
theorem mems_succ (a : Int) (k : Nat) : mems a (k + 1) = mems a k ++ (if inB a k = true then [(k : Int)] else []) := by
  unfold mems
  rw [List.range_succ, List.filter_append, List.map_append]
  congr 1
  by_cases h : inB a k = true
  · rw [if_pos h, List.filter_cons_of_pos h]; rfl
  · rw [if_neg h, List.filter_cons_of_neg h]; rfl
theorem mems_len (a : Int) (k : Nat) : (mems a k).length ≤ k := by
  unfold mems
  rw [List.length_map]
  exact Nat.le_trans (List.length_filter_le _ _) (by simp)
theorem own_nil (w : World) (B : Nat) : w.ownsRow B 3 1 (.slice none 0 0) ([] : List Int).length (([] : List Int).map zI) := ⟨by simp, .inl ⟨rfl, rfl⟩⟩
set_option maxRecDepth 100000 in
set_option maxHeartbeats 4000000 in
theorem members_yes (n a : Int) (hz : lookE n [a] = 0) (w : World) : Calls Try.prog 54 #[.int .i64 n, .int .i64 a] w fun e w' => ∃ p c, e = .returned (.tuple #[.slice p (mems a n.toNat).length c, .int .i64 0]) ∧ Ir w' w.heap.size p c (mems a n.toNat) ∧ Fr (fun _ => False) w w' := by
  have hlk := look_any n (some ⟨w.heap.size, 0, none⟩) 1 1 [a] rfl _ (is_lit w [a] (by simp))
  rw [show ([a].map zI).toArray = #[.int .i64 a] by rfl] at hlk
  obtain ⟨W0, hW0⟩ : ∃ W, W = w.alloc (.cells #[.int .i64 a] 3) := ⟨_, rfl⟩
  have HF : Hid (Fr (fun _ => False) w W0) := by rw [hW0]; exact Fr.box _ _
  have HZ : Hid (W0.heap.size = w.heap.size + 1) := by rw [hW0]; show _ = _; simp
  obtain ⟨h1, h2, h3⟩ := look_ok hz
  obtain ⟨h4, h5⟩ := sB_lt h2 (h3 a (by simp))
  rw [hz, ← hW0] at hlk
  have HW0 : Hid (w.alloc (.cells #[.int .i64 a] 3) = W0) := hW0.symm
  clear hz h3 hW0
  go_enter Try.func54, Try.ntmps54
  go_wp2_with fail
  rw [HW0.out]
  refine hlk.mono ?_
  rintro e w1 ⟨rfl, rfl⟩
  go_wp2
  go_loopw [7, 17] (fun v i wr => ∃ k : Nat, k ≤ n.toNat ∧ i = .int .i64 k ∧ Hid (wr.ownsRow w.heap.size 3 1 v (mems a k).length ((mems a k).map zI)) ∧ Hid (Fr (fun _ => False) w wr)) (fun _ i _ => n.toNat - (intOf i).toNat)
  case atStart => exact ⟨0, by omega, rfl, own_nil _ _, HF⟩
  case round =>
    obtain ⟨k, hk, rfl, HO, HR⟩ := hrel
    by_cases hlt : (k : Int) < n
    · have hin := isIn_any a k h4 h5 (by omega) (by omega) wr
      rw [Int.toNat_natCast] at hin
      have hms := mems_succ a k
      have hml := mems_len a k
      obtain ⟨l, hl⟩ : ∃ l, l = mems a k := ⟨_, rfl⟩
      rw [← hl] at HO hms hml
      obtain ⟨p0, c0, rfl, _⟩ := Ir.of HO.out
      cases hb : inB a k with
      | true =>
        rw [hb] at hin
        rw [hb, if_pos rfl] at hms
        obtain ⟨a', c', w', hrun, hown, fa⟩ := app_one (k : Int) HO.out (by have := HR.out.size; omega) (by omega)
        have F2 : Hid (Fr (fun _ => False) w w') := HR.out.trans fa (fun i hi e => by omega)
        have HOW : Hid (w'.ownsRow w.heap.size 3 1 (.slice a' (l.length + 1) c') (mems a (k + 1)).length ((mems a (k + 1)).map zI)) := by rw [hms]; exact hown
        clear hown fa HO HR hms hb hl
        go_wp2_with fail
        refine hin.mono ?_
        rintro e w2 ⟨rfl, rfl⟩
        go_wp2_with (at_builtin; refine append_step rfl _ _ 103 rfl rfl rfl hrun ?_)
        refine ⟨⟨k + 1, by omega, by simp, HOW, F2⟩, by simp [intOf]; omega⟩
      | false =>
        rw [hb] at hin
        rw [hb, if_neg (by simp), List.append_nil] at hms
        have HO' : Hid (wr.ownsRow w.heap.size 3 1 (.slice p0 l.length c0) (mems a (k + 1)).length ((mems a (k + 1)).map zI)) := by rw [hms]; exact HO
        clear hb hl hms HO
        go_wp2_with (go_at_call 59; refine hin.mono ?_; rintro e w2 ⟨rfl, rfl⟩)
        refine ⟨⟨k + 1, by omega, by simp, HO', HR⟩, by simp [intOf]; omega⟩
    · have hkn : k = n.toNat := by omega
      subst hkn
      obtain ⟨p, c, rfl, hir⟩ := Ir.of HO.out
      clear HO
      go_wp2
      go_ret2
      exact ⟨p, c, rfl, hir, HR.out⟩
theorem members_no (n a : Int) (hz : lookE n [a] ≠ 0) (w : World) : Calls Try.prog 54 #[.int .i64 n, .int .i64 a] w fun e w' => e = .returned (.tuple #[.slice none 0 0, .int .i64 (lookE n [a])]) ∧ Fr (fun _ => False) w w' := by
  have hlk := look_any n (some ⟨w.heap.size, 0, none⟩) 1 1 [a] rfl _ (is_lit w [a] (by simp))
  rw [show ([a].map zI).toArray = #[.int .i64 a] by rfl] at hlk
  have HF : Hid (Fr (fun _ => False) w (w.alloc (.cells #[.int .i64 a] 3))) := Fr.box _ _
  go_enter Try.func54, Try.ntmps54
  go_wp2_with (go_at_call 52; refine hlk.mono ?_; rintro e w1 ⟨rfl, rfl⟩)
  go_ret2
  exact ⟨rfl, HF.out⟩

/-- Whether a set is a majority. -/
def hasM (n a : Int) : Bool := decide (lookE n [a] = 0) && decide (majN n ≤ (mems a n.toNat).length)
set_option maxRecDepth 100000 in
set_option maxHeartbeats 4000000 in
theorem has_any (n a : Int) (w : World) : Calls Try.prog 42 #[.int .i64 n, .int .i64 a] w fun e w' => e = .returned (.tuple #[.bool (hasM n a), .int .i64 (lookE n [a])]) ∧ Fr (fun _ => False) w w' := by
  have hmj := majority_any n w
  cases hn : nOk n with
  | false =>
    have hE := look_no hn [a]
    rw [hE, show hasM n a = false by simp [hasM, hE]]
    rw [show nE n = 1 by simp [nE, hn]] at hmj
    clear hn hE
    go_enter Try.func42, Try.ntmps42
    go_wp2_with (go_at_call 53; refine hmj.mono ?_; rintro e w1 ⟨rfl, rfl⟩)
    go_ret2
    exact ⟨rfl, Fr.refl _ _⟩
  | true =>
    rw [show nE n = 0 by simp [nE, hn]] at hmj
    have hm7 : 0 ≤ majN n ∧ majN n ≤ 4 := by
      unfold majN
      rw [if_pos hn]
      have := nOk_iff.1 hn
      omega
    obtain ⟨hm8, hm9⟩ := hm7
    obtain ⟨m, hm⟩ : ∃ m, m = majN n := ⟨_, rfl⟩
    rw [← hm] at hmj hm8 hm9
    by_cases hz : lookE n [a] = 0
    · rw [show hasM n a = decide (m ≤ (mems a n.toNat).length) by simp [hasM, hz, hm], hz]
      have hmb := members_yes n a hz w
      have hml := mems_len a n.toNat
      have h7 : n.toNat ≤ 7 := by have := (look_ok hz).2.1; omega
      obtain ⟨L, hL⟩ : ∃ L, L = mems a n.toNat := ⟨_, rfl⟩
      rw [← hL] at hmb hml ⊢
      clear hz hn hm hL
      go_enter Try.func42, Try.ntmps42
      go_wp2_with (first | (go_at_call 53; refine hmj.mono ?_; rintro e w1 ⟨rfl, rfl⟩) | (go_at_call 54; refine hmb.mono ?_; rintro e w2 ⟨p, c, rfl, hir, f2⟩; clear hir))
      go_ret2
      exact ⟨rfl, f2⟩
    · rw [show hasM n a = false by simp [hasM, hz]]
      have hmb := members_no n a hz w
      clear hn hm
      go_enter Try.func42, Try.ntmps42
      go_wp2_with (first | (go_at_call 53; refine hmj.mono ?_; rintro e w1 ⟨rfl, rfl⟩) | (go_at_call 54; refine hmb.mono ?_; rintro e w2 ⟨rfl, f2⟩))
      go_ret2
      exact ⟨rfl, f2⟩
/-- The least node below k in both. -/
def meetF (a b : Int) : Nat → Nat → Option Nat
  | 0, _ => none
  | k + 1, i => if inB a i && inB b i then some i else meetF a b k (i + 1)
def meetI (n a b : Int) : Int := if lookE n [a, b] = 0 then (match meetF a b n.toNat 0 with | some i => (i : Int) | none => 0) else 0
def meetB (n a b : Int) : Bool := decide (lookE n [a, b] = 0) && (meetF a b n.toNat 0).isSome
end Go.Proofs.Ytbfkacahaocpfaa
