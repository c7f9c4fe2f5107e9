
/- The document's own map in memory; what its functions do. -/
import Derived.Test.YtgilemiejemgkaaAlSpeak
import Derived.Test.YtgilemiejemgkaaBools
namespace Go.Proofs.Ytgilemiejemgkaa
open Go.RowKit

/-- The document's map at block b: its truth values at g. -/
structure RM (w : World) (b g n : Nat) (V : List Bool) : Prop where
  box : w.heap[b]? = some (.cells #[.slice (some ⟨g, 0, none⟩) n n] 52)
  row : Bl w g n V
  ne : b ≠ g
  top : n ≤ 4097
theorem RM.cell0 {w : World} {b g n : Nat} {V : List Bool} (h : RM w b g n V) : w.cell? ⟨b, 0, none⟩ = some (.slice (some ⟨g, 0, none⟩) n n) := by
  have := cell_of_row w b 0 _ _ _ h.box
  simpa using this
theorem RM.fr {S : Nat → Prop} {w w' : World} {b g n : Nat} {V : List Bool} (h : RM w b g n V) (f : Fr S w w') (h1 : ¬ S b) (h2 : ¬ S g) : RM w' b g n V := ⟨f.block_eq h.box h1, h.row.fr f h2, h.ne, h.top⟩
theorem RM.same {w w' : World} {b g n : Nat} {V : List Bool} (h : RM w b g n V) (f : Fr (fun _ => False) w w') : RM w' b g n V := h.fr f (fun f => f) (fun f => f)
theorem RM.set {w : World} {b g n : Nat} {V : List Bool} (h : RM w b g n V) (k : Nat) (hk : k < n) (x : Bool) : RM (w.setCell ⟨g, k, none⟩ (.bool x)) b g n (V.set k x) :=
  ⟨((Fr.refl (fun i => i = g) w).setCell (p := ⟨g, k, none⟩) (fun _ => rfl) (.bool x)).block_eq h.box h.ne, (h.row.at_ hk).2.2 x, h.ne, h.top⟩

theorem rnew_bad (n : Int) (h : n < 1 ∨ 4096 < n) (w : World) : Calls Try.prog 8 #[.int .i64 n] w fun e w' => e = .returned (.tuple #[.pointer none, .int .i64 1]) ∧ w' = w := by
  rcases h with h | h
  · go_enter Try.func8, Try.ntmps8
    go_wp2
    go_ret2
    exact ⟨rfl, rfl⟩
  · have h2 : 1 ≤ n := by omega
    go_enter Try.func8, Try.ntmps8
    go_wp2
    go_ret2
    exact ⟨rfl, rfl⟩
theorem rnew_ok (most : Nat) (h1 : 1 ≤ most) (h2 : most ≤ 4096) (w : World) : Calls Try.prog 8 #[.int .i64 most] w fun e w' => e = .returned (.tuple #[.pointer (some ⟨w.heap.size + 1, 0, none⟩), .int .i64 0]) ∧ RM w' (w.heap.size + 1) w.heap.size (most + 1) (List.replicate (most + 1) false) ∧ Fr (fun _ => False) w w' := by
  have h1' : (1 : Int) ≤ most := by omega
  have h2' : (most : Int) ≤ 4096 := by omega
  obtain ⟨i0, hi, hz0, hz1, hz2⟩ := info_parts infob
  have hmk := fun (w : World) => run_make (P := Try.prog) w 47 4 i0 _ Try.underlying47 hi hz0 .i64 .i64 ((most : Int) + 1) ((most : Int) + 1) (by omega) (by omega) (by rw [hz2]; omega) (by omega)
  obtain ⟨N, hN⟩ : ∃ N, N = most + 1 := ⟨_, rfl⟩
  have HT : Hid (N ≤ 4097) := by show N ≤ 4097; omega
  rw [hz1, show ((most : Int) + 1).toNat = N by omega] at hmk
  rw [← hN]
  have HM : Hid (∀ W : World, Bl (W.alloc (.cells (madeCells (Value.bool false).cells (N * 1)) 4)) W.heap.size N (List.replicate N false)) := fun W => bl_made W N (by unfold maxLen; omega)
  generalize madeCells (Value.bool false).cells (N * 1) = C at *
  clear hN hz0 hi hz1 hz2
  go_enter Try.func8, Try.ntmps8
  go_wp2
  go_ret2
  have hb := heap_alloc_new (w.alloc (.cells C 4)) (.cells #[.slice (some ⟨w.heap.size, 0, none⟩) N N] 52)
  have f2 : Fr (fun _ => False) (w.alloc (.cells C 4)) ((w.alloc (.cells C 4)).alloc (.cells #[.slice (some ⟨w.heap.size, 0, none⟩) N N] 52)) := (Fr.refl _ _).alloc _
  refine ⟨rfl, ⟨by simpa using hb, (HM.out w).same f2, by omega, HT.out⟩, ((Fr.refl _ _).alloc _).false_trans f2⟩
/-- What the document's Take does. -/
def RTakeOut (b g n : Nat) (V : List Bool) (w : World) (e : Ending) (w' : World) : Prop :=
  (e = .returned (.tuple #[.int .i64 0, .int .i64 5]) ∧ w' = w ∧ ∀ k, 1 ≤ k → k < n → V.getD k false = true) ∨
  ∃ k : Nat, 1 ≤ k ∧ k < n ∧ V.getD k false = false ∧ (∀ j, 1 ≤ j → j < k → V.getD j false = true) ∧ e = .returned (.tuple #[.int .i64 k, .int .i64 0]) ∧ RM w' b g n (V.set k true) ∧ Fr (fun j => j = g) w w'
set_option maxRecDepth 100000 in
set_option maxHeartbeats 1000000 in
theorem rtake_any (b g n : Nat) (V : List Bool) (w : World) (h : RM w b g n V) (hn : 1 ≤ n) : Calls Try.prog 11 #[.pointer (some ⟨b, 0, none⟩)] w fun e w' => RTakeOut b g n V w e w' := by
  have htop := h.top
  have hc := h.cell0
  go_enter Try.func11, Try.ntmps11
  go_wp2
  go_loopw [4] (fun i wr => ∃ j : Nat, 1 ≤ j ∧ j ≤ n ∧ i = .int .i64 j ∧ Hid (∀ x, 1 ≤ x → x < j → V.getD x false = true) ∧ wr = w) (fun i _ => n - (intOf i).toNat)
  case atStart => exact ⟨1, by omega, by omega, rfl, (fun x h1 h2 => by omega), rfl⟩
  case round =>
    obtain ⟨j, hj1, hj2, rfl, HE, rfl⟩ := hrel
    by_cases hlt : j < n
    · have hjn : (j : Int) < (n : Int) := by omega
      obtain ⟨vc, vz, _⟩ := h.row.at_ hlt
      have HR : Hid (RM (wr.setCell ⟨g, j, none⟩ (.bool true)) b g n (V.set j true)) := h.set j hlt true
      cases hv : V.getD j false
      · rw [hv] at vc
        have HV : Hid (V.getD j false = false) := hv
        clear hv
        go_wp2
        go_ret2
        exact .inr ⟨j, hj1, hlt, HV.out, HE.out, rfl, HR.out, (Fr.refl (fun i => i = g) wr).setCell (p := ⟨g, j, none⟩) (fun _ => rfl) (.bool true)⟩
      · rw [hv] at vc
        have HV : Hid (V.getD j false = true) := hv
        clear hv
        go_wp2
        go_roundw
        case rel =>
          refine ⟨j + 1, by omega, by omega, by go_num, fun x h1 h2 => ?_, trivial⟩
          rcases Nat.lt_or_ge x j with h3 | h3
          · exact HE.out x h1 h3
          · rw [show x = j by omega]; exact HV.out
        case measure => simp [intOf]; omega
    · have e : j = n := by omega
      subst e
      go_wp2
      go_ret2
      exact .inl ⟨rfl, rfl, HE.out⟩
/-- What the document's Set answers and leaves. -/
def rsetE (n : Nat) (V : List Bool) (on : Bool) (i : Int) : Int := if 1 ≤ i ∧ i < n then (if V.getD i.toNat false = on then 7 else 0) else 6
def rsetV (n : Nat) (V : List Bool) (on : Bool) (i : Int) : List Bool := if 1 ≤ i ∧ i < n then (if V.getD i.toNat false = on then V else V.set i.toNat on) else V
theorem rset_any (b g n : Nat) (V : List Bool) (w : World) (h : RM w b g n V) (i : Int) (on : Bool) : Calls Try.prog 13 #[.pointer (some ⟨b, 0, none⟩), .int .i64 i, .bool on] w fun e w' => e = .returned (.int .i64 (rsetE n V on i)) ∧ RM w' b g n (rsetV n V on i) ∧ Fr (fun j => j = g) w w' := by
  have htop := h.top
  have hc := h.cell0
  unfold rsetE rsetV
  by_cases hi : 1 ≤ i ∧ i < n
  · rw [if_pos hi, if_pos hi]
    obtain ⟨k, rfl⟩ : ∃ k : Nat, i = k := ⟨i.toNat, by omega⟩
    rw [Int.toNat_natCast]
    have hk : k < n := by omega
    have hki : (k : Int) < (n : Int) := by omega
    have hk1 : (1 : Int) ≤ (k : Int) := by omega
    have hd : decide ((n : Int) ≤ (k : Int)) = false := by simp; omega
    obtain ⟨vc, vz, _⟩ := h.row.at_ hk
    have HR : Hid (RM (w.setCell ⟨g, k, none⟩ (.bool on)) b g n (V.set k on)) := h.set k hk on
    clear hi
    generalize V.getD k false = x at *
    cases x <;> cases on
    all_goals
      first
        | rw [if_pos rfl, if_pos rfl]
        | rw [if_neg (by simp), if_neg (by simp)]
      go_enter Try.func13, Try.ntmps13
      go_wp2
      go_ret
      first
        | exact ⟨rfl, h, Fr.refl _ _⟩
        | exact ⟨rfl, HR.out, (Fr.refl (fun i => i = g) w).setCell (p := ⟨g, k, none⟩) (fun _ => rfl) _⟩
  · rw [if_neg hi, if_neg hi]
    by_cases h1 : i < 1
    · clear hi
      go_enter Try.func13, Try.ntmps13
      go_wp2
      go_ret
      exact ⟨rfl, h, Fr.refl _ _⟩
    · have h2 : (n : Int) ≤ i := by omega
      have h1' : 1 ≤ i := by omega
      clear hi h1
      go_enter Try.func13, Try.ntmps13
      go_wp2
      go_ret
      exact ⟨rfl, h, Fr.refl _ _⟩
def rhasF (n : Nat) (V : List Bool) (i : Int) : Bool := decide (1 ≤ i ∧ i < n) && V.getD i.toNat false
theorem rhas_any (b g n : Nat) (V : List Bool) (w : World) (h : RM w b g n V) (i : Int) : Calls Try.prog 16 #[.pointer (some ⟨b, 0, none⟩), .int .i64 i] w fun e w' => e = .returned (.bool (rhasF n V i)) ∧ w' = w := by
  have htop := h.top
  have hc := h.cell0
  unfold rhasF
  by_cases hi : 1 ≤ i ∧ i < n
  · rw [decide_eq_true hi, Bool.true_and]
    obtain ⟨k, rfl⟩ : ∃ k : Nat, i = k := ⟨i.toNat, by omega⟩
    rw [Int.toNat_natCast]
    have hk : k < n := by omega
    have hki : (k : Int) < (n : Int) := by omega
    have hk1 : (1 : Int) ≤ (k : Int) := by omega
    have hd : decide ((k : Int) < (n : Int)) = true := by simp; omega
    obtain ⟨vc, vz, _⟩ := h.row.at_ hk
    generalize V.getD k false = x at *
    clear hi
    go_enter Try.func16, Try.ntmps16
    go_wp2
    go_ret
    exact ⟨rfl, rfl⟩
  · rw [decide_eq_false hi, Bool.false_and]
    by_cases h1 : i < 1
    · clear hi
      go_enter Try.func16, Try.ntmps16
      go_wp2
      go_ret
      exact ⟨rfl, rfl⟩
    · have h2 : (n : Int) ≤ i := by omega
      have h1' : 1 ≤ i := by omega
      have hd : decide (i < (n : Int)) = false := by simp; omega
      clear hi h1
      go_enter Try.func16, Try.ntmps16
      go_wp2
      go_ret
      exact ⟨rfl, rfl⟩
end Go.Proofs.Ytgilemiejemgkaa
