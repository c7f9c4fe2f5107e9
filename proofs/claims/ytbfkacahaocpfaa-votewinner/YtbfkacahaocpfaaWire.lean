
/- What package wire's small functions do: isSize, fits, New, (*Writer).Num, (*Writer).Bytes, Of. -/
import Derived.Test.YtbfkacahaocpfaaOwn
import Derived.Test.YtbfkacahaocpfaaApp
namespace Go.Proofs.Ytbfkacahaocpfaa
open Go.RowKit

def sized (s : Int) : Bool := s == 1 || s == 2 || s == 4 || s == 8
set_option maxRecDepth 100000 in
set_option maxHeartbeats 400000 in
theorem isSize_yes (s : Int) (h : s = 1 ∨ s = 2 ∨ s = 4 ∨ s = 8) (w : World) : Calls Try.prog 43 #[.int .i64 s] w fun e w' => e = .returned (.bool true) ∧ w' = w := by
  rcases h with rfl | rfl | rfl | rfl <;>
    (go_enter Try.func43, Try.ntmps43; go_wp2; go_ret; exact ⟨rfl, rfl⟩)
set_option maxRecDepth 100000 in
set_option maxHeartbeats 400000 in
theorem isSize_no (s : Int) (h1 : ¬ s = 1) (h2 : ¬ s = 2) (h4 : ¬ s = 4) (h8 : ¬ s = 8) (w : World) : Calls Try.prog 43 #[.int .i64 s] w fun e w' => e = .returned (.bool false) ∧ w' = w := by
  have g1 : (s == 1) = false := by simpa using h1
  have g2 : (s == 2) = false := by simpa using h2
  have g4 : (s == 4) = false := by simpa using h4
  have g8 : (s == 8) = false := by simpa using h8
  clear h1 h2 h4 h8
  go_enter Try.func43, Try.ntmps43; go_wp2; go_ret; exact ⟨rfl, rfl⟩

/-- A number of so many bytes. -/
def fit (n size : Int) : Prop := 0 ≤ n ∧ (size = 1 ∧ n < 256 ∨ size = 2 ∧ n < 65536 ∨ size = 4 ∧ n < 4294967296 ∨ size = 8)
set_option maxRecDepth 100000 in
set_option maxHeartbeats 400000 in
theorem fits_yes (n size : Int) (h : fit n size) (w : World) : Calls Try.prog 44 #[.int .i64 n, .int .i64 size] w fun e w' => e = .returned (.bool true) ∧ w' = w := by
  obtain ⟨h0, h⟩ := h
  rcases h with ⟨rfl, h⟩ | ⟨rfl, h⟩ | ⟨rfl, h⟩ | rfl
  · have e : n / 256 = 0 := by omega
    go_enter Try.func44, Try.ntmps44; go_wp2; go_ret; exact ⟨rfl, rfl⟩
  · have e : n / 65536 = 0 := by omega
    go_enter Try.func44, Try.ntmps44; go_wp2; go_ret; exact ⟨rfl, rfl⟩
  · have e : n / 4294967296 = 0 := by omega
    go_enter Try.func44, Try.ntmps44; go_wp2; go_ret; exact ⟨rfl, rfl⟩
  · go_enter Try.func44, Try.ntmps44; go_wp2; go_ret; exact ⟨rfl, rfl⟩

theorem new_any (w : World) : Calls Try.prog 29 #[] w fun e w' => e = .returned (.pointer (some ⟨w.heap.size, 0, none⟩)) ∧ w' = w.alloc (.cells #[.slice none 0 0] 96) := by
  go_enter Try.func29, Try.ntmps29
  go_wp2
  go_ret
  exact ⟨rfl, rfl⟩
theorem Wr.new (w : World) : Wr (w.alloc (.cells #[.slice none 0 0] 96)) (w.heap.size + 1) w.heap.size (.slice none 0 0) [] :=
  ⟨heap_alloc_new w _, by omega, World.ownsRow_nil _ _ _ _⟩

set_option maxRecDepth 100000 in
set_option maxHeartbeats 400000 in
theorem wnum_yes (n size : Nat) (hfit : fit n size) (base wb : Nat) (v : Value) (l : List Nat) (w : World) (h : Wr w base wb v l) (hb : base ≤ w.heap.size) (hroom : l.length + 8 ≤ 140737488355328) :
    Calls Try.prog 30 #[.pointer (some ⟨wb, 0, none⟩), .int .i64 n, .int .i64 size] w fun e w' => e = .returned (.int .i64 0) ∧
      ∃ v', Wr w' base wb v' (l ++ le size n) ∧ Fr (wrS wb v) w w' ∧ (v'.ownBlock = v.ownBlock ∨ ∃ g, v'.ownBlock = some g ∧ w.heap.size ≤ g) := by
  have hs : (size : Int) = 1 ∨ (size : Int) = 2 ∨ (size : Int) = 4 ∨ (size : Int) = 8 := by have := hfit.2; omega
  have hs8 : size ≤ 8 := by omega
  have HF : Hid (fit n size) := hfit
  have HS : Hid ((size : Int) = 1 ∨ (size : Int) = 2 ∨ (size : Int) = 4 ∨ (size : Int) = 8) := hs
  clear hfit hs
  go_enter Try.func30, Try.ntmps30
  go_wp2_with (first | (go_at_call 43; refine (isSize_yes _ HS.out _).mono ?_; rintro e w' ⟨rfl, rfl⟩) | (go_at_call 44; refine (fits_yes _ _ HF.out _).mono ?_; rintro e w' ⟨rfl, rfl⟩) | (go_at_call 45; refine (number_any n size hs8 base wb v l _ h hb hroom).mono ?_; rintro e w' ⟨rfl, hq⟩))
  go_ret
  exact ⟨rfl, hq⟩

/-- A slice that was made is nobody else's. -/
structure Made (w w' : World) (v : Value) (l : List Nat) : Prop where
  own : Mine w' w.heap.size v l
  fr : Fr (fun _ => False) w w'

theorem Fr.ofGrown {w w' : World} (h : w.grownBy w' none) : Fr (fun _ => False) w w' := ⟨h.os, h.tape, h.output, h.size, fun k hk _ => h.block k hk (by simp)⟩

set_option maxRecDepth 100000 in
set_option maxHeartbeats 400000 in
theorem bytes_any (base wb : Nat) (v : Value) (l : List Nat) (hl : octs l) (hs : l.length ≤ 140737488355328) (w : World) (h : Wr w base wb v l) :
    Calls Try.prog 32 #[.pointer (some ⟨wb, 0, none⟩)] w fun e w' => ∃ v', e = .returned v' ∧ Made w w' v' l := by
  obtain ⟨i0, hi, hz0, hz1, hz2⟩ := info_parts info8
  obtain ⟨a, c, rfl, hr⟩ := h.own.row hl hs
  have hcell := cell_of_one h.box
  go_enter Try.func32, Try.ntmps32
  go_wp2_with (at_builtin; refine wpList_append_row _ rfl _ _ 24 94 5 rfl i0 Try.underlying24 Try.underlying94 hi hz0 hz1 hz2 w.heap.size (.slice none 0 0) [] rfl (World.ownsRow_nil _ _ _ _) a l.length c l rfl rfl hr (by simpa using hs) (Nat.le_refl _) ?_; intro a' c' w1 hown hgrow hat)
  go_ret
  exact ⟨_, rfl, by simpa using hown, Fr.ofGrown hgrow⟩

/-- A reader at block rb: what is left is l. -/
structure Rd (w : World) (rb : Nat) (a : Option Addr) (cap : Nat) (l : List Nat) (err : Int) : Prop where
  box : w.heap[rb]? = some (.cells #[.slice a l.length cap, .int .i64 err] 111 (0, 0))
  row : Row w a cap l
  far : ∀ b off sp, a = some ⟨b, off, sp⟩ → b ≠ rb

theorem Row.same {w w' : World} {a : Option Addr} {cap : Nat} {l : List Nat} (h : Row w a cap l) (f : Fr (fun _ => False) w w') : Row w' a cap l := by
  refine ⟨h.le, h.max, h.small, h.byte, ?_⟩
  rcases h.at_ with h0 | ⟨b, off, rfl, hb, hc⟩
  · exact .inl h0
  · exact .inr ⟨b, off, rfl, Nat.lt_of_lt_of_le hb f.size, fun i hi => (f.cell hb (fun x => x)).trans (hc i hi)⟩
theorem Wr.fr {S : Nat → Prop} {w w' : World} {base wb : Nat} {v : Value} {l : List Nat} (h : Wr w base wb v l) (f : Fr S w w') (h1 : ¬ S wb) (h2 : ∀ k, v.ownBlock = some k → ¬ S k) : Wr w' base wb v l :=
  ⟨by rw [f.block wb (lt_of_block h.box) h1]; exact h.box, h.low, h.own.fr f h2⟩
/-- What was grown by a row that is new to 'a' leaves all of 'a'. -/
theorem Fr.fresh {a w w' : World} {row : Option Nat} (h : Fr (fun _ => False) a w) (hg : w.grownBy w' row) (hr : ∀ k, row = some k → a.heap.size ≤ k) : Fr (fun _ => False) a w' :=
  h.grown hg (fun k e hk => by have := hr k e; omega)
theorem Fr.false_trans {a b c : World} (h : Fr (fun _ => False) a b) (k : Fr (fun _ => False) b c) : Fr (fun _ => False) a c := h.trans k (fun _ _ f => f)
theorem Row.fr {S : Nat → Prop} {w w' : World} {a : Option Addr} {cap : Nat} {l : List Nat} (h : Row w a cap l) (f : Fr S w w') (hn : ∀ b off sp, a = some ⟨b, off, sp⟩ → ¬ S b) : Row w' a cap l := by
  refine ⟨h.le, h.max, h.small, h.byte, ?_⟩
  rcases h.at_ with h0 | ⟨b, off, rfl, hb, hc⟩
  · exact .inl h0
  · exact .inr ⟨b, off, rfl, Nat.lt_of_lt_of_le hb f.size, fun i hi => (f.cell hb (hn _ _ _ rfl)).trans (hc i hi)⟩

set_option maxRecDepth 100000 in
set_option maxHeartbeats 400000 in
theorem of_any (a : Option Addr) (n cap : Nat) (l : List Nat) (hn : n = l.length) (w : World) (hr : Row w a cap l) :
    Calls Try.prog 48 #[.slice a n cap] w fun e w' => ∃ rb a' c', e = .returned (.pointer (some ⟨rb, 0, none⟩)) ∧ Rd w' rb a' c' l 0 ∧ Fr (fun _ => False) w w' ∧ w.heap.size ≤ rb ∧ (∀ b off sp, a' = some ⟨b, off, sp⟩ → w.heap.size ≤ b) := by
  obtain ⟨i0, hi, hz0, hz1, hz2⟩ := info_parts info8
  have hs := hr.small
  go_enter Try.func48, Try.ntmps48
  go_wp2_with (at_builtin; refine wpList_append_row _ rfl _ _ 24 24 5 rfl i0 Try.underlying24 Try.underlying24 hi hz0 hz1 hz2 w.heap.size (.slice none 0 0) [] rfl (World.ownsRow_nil _ _ _ _) a n cap l hn rfl hr (by simpa using hs) (Nat.le_refl _) ?_; intro a' c' w1 hown hgrow hat)
  go_ret
  have hm : Mine w1 w.heap.size (.slice a' l.length c') l := by simpa using hown
  obtain ⟨a2, c2, he, hrow⟩ := hm.row hr.byte hs
  simp only [Value.slice.injEq, true_and] at he
  obtain ⟨rfl, rfl⟩ := he
  have hge : ∀ b off sp, a' = some ⟨b, off, sp⟩ → w.heap.size ≤ b ∧ b < w1.heap.size := fun b off sp e => hm.lt b (by rw [e]; rfl)
  refine ⟨w1.heap.size, a', c', rfl, ⟨heap_alloc_new w1 _, hrow.fr ((Fr.refl (fun _ => False) w1).alloc _) (fun _ _ _ _ f => f), fun b off sp e => ?_⟩, (Fr.ofGrown hgrow).alloc _, hgrow.size, fun b off sp e => (hge b off sp e).1⟩
  have := (hge b off sp e).2
  omega
end Go.Proofs.Ytbfkacahaocpfaa
