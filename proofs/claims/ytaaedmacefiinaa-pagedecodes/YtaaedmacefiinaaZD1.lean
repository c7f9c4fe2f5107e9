
/- PgSpeak, RefRd, RefRd2, RefRd3, PgRx, PgRMath. -/
import Derived.Test.YtaaedmacefiinaaZC1
import Derived.Deep.QuietTactic
import Derived.BigQuiet
/- That page speaks. -/
namespace Go.Proofs.Ytaaedmacefiinaa
open Go.RowKit Crcm

def n0 : Nd := ⟨0, 7, 2, ⟨#[98]⟩, [⟨#[97]⟩], [⟨#[120]⟩], []⟩
theorem nd_ext {a b : Nd} (h1 : a.lev = b.lev) (h2 : a.lsn = b.lsn) (h3 : a.rgt = b.rgt) (h4 : a.high = b.high) (h5 : a.keys = b.keys) (h6 : a.vals = b.vals) (h7 : a.kids = b.kids) : a = b := by
  cases a; cases b; simp_all
set_option maxRecDepth 100000 in
theorem n0_node : (nodeF (((opened (pg n0)).1, 0), false)).1 = n0 :=
  nd_ext (by decide +kernel) (by decide +kernel) (by decide +kernel) (by decide +kernel) (by decide +kernel) (by decide +kernel) (by decide +kernel)
set_option maxRecDepth 100000 in
theorem n0_dec : decF (pg n0) = some n0 := by
  unfold decF
  rw [n0_node, if_pos]
  exact ⟨by decide +kernel, by decide +kernel, by decide +kernel, by decide +kernel, by decide +kernel⟩
theorem n0_right : Rt n0 := (right_iff n0).1 (by decide +kernel)
theorem n0_size : sizeN n0 = 28 := by decide +kernel
theorem n1_page : epage ⟨1, 0, 0, ⟨#[]⟩, [], [], []⟩ = 60 := by decide +kernel

theorem strs_new (W : World) (b : Nat) (x : ByteArray) (hx : x.size ≤ maxLen) (h : W.heap[b]? = some (.cells #[.string x] 9 (0, 0))) : Strs W (some ⟨b, 0, none⟩) 1 [x] := by
  refine ⟨by simp, by omega, (fun s hs => by rw [List.mem_singleton.1 hs]; exact hx), .inr ⟨b, 0, rfl, lt_of_block h, fun i hi => ?_⟩⟩
  have : i = 0 := by simpa using hi
  subst this
  simp [World.cell?, h]
def p0 (w : World) : Pt := ⟨some ⟨w.heap.size, 0, none⟩, 1, some ⟨w.heap.size + 1, 0, none⟩, 1, none, 0⟩
def W3 (w : World) : World := ((w.alloc (.cells #[.string ⟨#[97]⟩] 9)).alloc (.cells #[.string ⟨#[120]⟩] 9)).alloc (.cells #[.int .i64 0, .int .i64 7, .int .i64 2, .string ⟨#[98]⟩, .slice (some ⟨w.heap.size, 0, none⟩) 1 1, .slice (some ⟨w.heap.size + 1, 0, none⟩) 1 1, .slice none 0 0] 25)
theorem W3_fr (w : World) : Fr (fun _ => False) w (W3 w) := (((Fr.refl _ w).alloc _).alloc _).alloc _
theorem W3_box (w : World) : (W3 w).heap[w.heap.size + 1 + 1]? = some (.cells #[.int .i64 0, .int .i64 7, .int .i64 2, .string ⟨#[98]⟩, .slice (some ⟨w.heap.size, 0, none⟩) 1 1, .slice (some ⟨w.heap.size + 1, 0, none⟩) 1 1, .slice none 0 0] 25 (0, 0)) := by
  have := heap_alloc_new ((w.alloc (.cells #[.string ⟨#[97]⟩] 9)).alloc (.cells #[.string ⟨#[120]⟩] 9)) (.cells #[.int .i64 0, .int .i64 7, .int .i64 2, .string ⟨#[98]⟩, .slice (some ⟨w.heap.size, 0, none⟩) 1 1, .slice (some ⟨w.heap.size + 1, 0, none⟩) 1 1, .slice none 0 0] 25)
  simpa [W3] using this
theorem W3_nod (w : World) : Nod (W3 w) n0 (p0 w) := by
  have h0 : (W3 w).heap[w.heap.size]? = some (.cells #[.string ⟨#[97]⟩] 9 (0, 0)) := by
    unfold W3
    rw [Below.heap_alloc _ _ _ (by simp; omega), Below.heap_alloc _ _ _ (by simp)]; exact heap_alloc_new w _
  have h1 : (W3 w).heap[w.heap.size + 1]? = some (.cells #[.string ⟨#[120]⟩] 9 (0, 0)) := by
    unfold W3
    rw [Below.heap_alloc _ _ _ (by simp)]
    have := heap_alloc_new (w.alloc (.cells #[.string ⟨#[97]⟩] 9)) (.cells #[.string ⟨#[120]⟩] 9)
    simpa using this
  exact ⟨strs_new _ _ _ (by decide) h0, strs_new _ _ _ (by decide) h1, ⟨Nat.le_refl _, by simp [p0], .inl rfl⟩, by decide, (fun s hs => by rw [List.mem_singleton.1 hs]; decide), (fun s hs => by rw [List.mem_singleton.1 hs]; decide), by decide, by decide, by decide⟩

set_option maxRecDepth 100000 in
set_option maxHeartbeats 2000000 in
theorem pspeaks_any (w : World) : Calls Try.prog 14 #[] w fun e w' => e = .returned (.bool true) ∧ Fr (fun _ => False) w w' := by
  have f3 := W3_fr w
  have nd := W3_nod w
  have hb := W3_box w
  obtain ⟨V, hV⟩ : ∃ V, V = W3 w := ⟨_, rfl⟩
  have HV : Hid (((w.alloc (.cells #[.string ⟨#[97]⟩] 9)).alloc (.cells #[.string ⟨#[120]⟩] 9)).alloc (.cells #[.int .i64 0, .int .i64 7, .int .i64 2, .string ⟨#[98]⟩, .slice (some ⟨w.heap.size, 0, none⟩) 1 1, .slice (some ⟨w.heap.size + 1, 0, none⟩) 1 1, .slice none 0 0] 25) = V) := hV.symm
  rw [← hV] at f3 nd hb
  clear hV
  have HBX : Hid (∀ W, Fr (fun _ => False) V W → W.heap[w.heap.size + 1 + 1]? = some (.cells #[.int .i64 0, .int .i64 7, .int .i64 2, .string ⟨#[98]⟩, .slice (some ⟨w.heap.size, 0, none⟩) 1 1, .slice (some ⟨w.heap.size + 1, 0, none⟩) 1 1, .slice none 0 0] 25 (0, 0))) := fun W f => by rw [f.block _ (lt_of_block hb) (fun f => f)]; exact hb
  go_enter Try.func14, Try.ntmps14
  go_wp2_with fail
  rw [HV.out]
  refine (encode_yes n0 (p0 w) V nd n0_right).mono ?_
  rintro e w1 ⟨g, rfl, A1, hg, f1⟩
  have hro : Row w1 (some ⟨g, 0, none⟩) 256 (pg n0) := by
    have := A1.row (pg_octs n0) 256 (by omega) 256 (by omega) (by omega)
    rwa [List.take_of_length_le (by rw [A1.length]; omega)] at this
  have hdc := decode_256 (some ⟨g, 0, none⟩) 256 (pg n0) A1.length w1 hro
  unfold DecOut at hdc
  rw [n0_dec] at hdc
  simp only [Option.getD_some, Option.isSome_some, if_true] at hdc
  go_wp2_with fail
  refine hdc.mono ?_
  clear hdc
  rintro e w2 ⟨p2, rfl, nd2, f2⟩
  have fb := Fr.box w2 (.cells #[.int .i64 n0.lev, .int .i64 n0.lsn, .int .i64 n0.rgt, .string n0.high, .slice p2.k n0.keys.length p2.kc, .slice p2.v n0.vals.length p2.vc, .slice p2.i n0.kids.length p2.ic] 25)
  have f4 := (f1.seq' f2).seq' fb
  obtain ⟨⟨k0, k1, k2, k3, k4, k5, k6⟩, _⟩ := node_cells (HBX.out _ f4)
  go_wp2_with fail
  refine (plain_same n0 p2 (p0 w) _ (nd2.same fb) (nd.same f4)).mono ?_
  rintro e w5 ⟨rfl, f5⟩
  clear k0 k1 k2 k3 k4 k5 k6
  obtain ⟨⟨k0, k1, k2, k3, k4, k5, k6⟩, _⟩ := node_cells (HBX.out _ (f4.seq' f5))
  have hsz := size_any n0 (p0 w) w5 (nd.same (f4.seq' f5))
  rw [n0_size, show wrap64 ((28 : Nat) : Int) = 28 from wrap_id (by omega)] at hsz
  go_wp2_with fail
  refine hsz.mono ?_
  clear hsz
  rintro e w6 ⟨rfl, f6⟩
  have hck := check_any ⟨1, 0, 0, ⟨#[]⟩, [], [], []⟩ zp w6 ⟨⟨Nat.le_refl _, by simp [zp], (fun s hs => by cases hs), .inl rfl⟩, ⟨Nat.le_refl _, by simp [zp], (fun s hs => by cases hs), .inl rfl⟩, ⟨Nat.le_refl _, by simp [zp], .inl rfl⟩, by decide, (fun s hs => by cases hs), (fun s hs => by cases hs), by simp, by simp, by simp⟩
  rw [n1_page] at hck
  go_wp2_with fail
  refine hck.mono ?_
  clear hck
  rintro e w7 ⟨rfl, f7⟩
  go_wp2
  go_ret
  exact ⟨rfl, f3.seq' (((f4.seq' f5).seq' f6).seq' f7)⟩
end Go.Proofs.Ytaaedmacefiinaa
/- What the document's own reader does: Num. -/
namespace Go.Proofs.Ytaaedmacefiinaa
open Go.RowKit

theorem val_split (l : List Nat) (j : Nat) (h : j ≤ l.length) : val l = val (l.take j) + 256 ^ j * val (l.drop j) := by
  induction j generalizing l with
  | zero => simp [val]
  | succ j ih =>
    cases l with
    | nil => simp at h
    | cons x l =>
      have := ih l (by simpa using h)
      simp only [List.take_succ_cons, List.drop_succ_cons, val, this, Nat.pow_succ]
      rw [Nat.mul_add, ← Nat.mul_assoc, Nat.mul_comm 256 (256 ^ j), Nat.add_assoc]
theorem val_drop (l : List Nat) (j : Nat) (h : j < l.length) : val (l.drop j) = l.getD j 0 + 256 * val (l.drop (j + 1)) := by
  rw [List.drop_eq_getElem_cons h]
  simp only [val]
  rw [List.getD_eq_getElem?_getD, List.getElem?_eq_getElem h]; rfl
theorem val_drop_le (l : List Nat) (j : Nat) (h : j ≤ l.length) : val (l.drop j) ≤ val l := by
  have h1 := val_split l j h
  have h2 : 1 ≤ 256 ^ j := Nat.pow_pos (by omega)
  have h3 : val (l.drop j) ≤ 256 ^ j * val (l.drop j) := Nat.le_mul_of_pos_left _ (by omega)
  omega

/-- The document's reader at block rb: what is left is l. -/
structure Rf (w : World) (rb : Nat) (a : Option Addr) (cap : Nat) (l : List Nat) (err : Int) : Prop where
  box : w.heap[rb]? = some (.cells #[.slice a l.length cap, .int .i64 err] 85 (0, 0))
  row : Row w a cap l
  far : l = [] ∨ ∀ b off sp, a = some ⟨b, off, sp⟩ → b ≠ rb
theorem Row.fr0 {S : Nat → Prop} {w w' : World} {a : Option Addr} {cap : Nat} {l : List Nat} (h : Row w a cap l) (f : Fr S w w') (hn : l = [] ∨ ∀ b off sp, a = some ⟨b, off, sp⟩ → ¬ S b) : Row w' a cap l := by
  rcases hn with e | e
  · exact ⟨h.le, h.max, h.small, h.byte, .inl e⟩
  · exact h.fr f e

theorem Rf.advance {w : World} {rb b off cap : Nat} {l : List Nat} (h : Rf w rb (some ⟨b, off, none⟩) cap l 0) (hb : b < w.heap.size) (hc : ∀ i, i < l.length → w.cell? ⟨b, off + i, none⟩ = some (.int .u8 ((l.getD i 0 : Nat) : Int))) (k : Nat) (hk : k ≤ l.length) (off2 : Nat) (ho : cap = k ∨ off2 = off + k) :
    ∃ a' c', Rf (w.setCell ⟨rb, 0, none⟩ (.slice (some ⟨b, off2, none⟩) (l.length - k) (cap - k))) rb a' c' (l.drop k) 0 ∧ Fr (fun k => k = rb) w (w.setCell ⟨rb, 0, none⟩ (.slice (some ⟨b, off2, none⟩) (l.length - k) (cap - k))) ∧ Near (some ⟨b, off, none⟩) a' := by
  have hf : Fr (fun k => k = rb) w (w.setCell ⟨rb, 0, none⟩ (.slice (some ⟨b, off2, none⟩) (l.length - k) (cap - k))) := (Fr.refl (fun k => k = rb) w).setCell (p := ⟨rb, 0, none⟩) (fun _ => rfl) _
  have hfar : l.drop k = [] ∨ ∀ b' off' sp, (some ⟨b, off2, none⟩ : Option Addr) = some ⟨b', off', sp⟩ → b' ≠ rb := by
    rcases h.far with e | e
    · exact .inl (by rw [e]; simp)
    · exact .inr (fun b' o s e' => by simp at e'; rw [← e'.1]; exact e b off none rfl)
  refine ⟨some ⟨b, off2, none⟩, cap - k, ⟨?_, ?_, hfar⟩, hf, ?_⟩
  · rw [two_setCell0 h.box, List.length_drop]
  · exact (h.row.drop k hk off2 ho (.inr ⟨hb, hc⟩)).fr0 hf hfar
  · intro b' o s e; simp at e; exact ⟨off, none, by rw [e.1]⟩
theorem Rf.fail {w : World} {rb cap : Nat} {a : Option Addr} {l : List Nat} {err : Int} (h : Rf w rb a cap l err) (err' : Int) :
    Rf (w.setCell ⟨rb, 1, none⟩ (.int .i64 err')) rb a cap l err' ∧ Fr (fun k => k = rb) w (w.setCell ⟨rb, 1, none⟩ (.int .i64 err')) := by
  have hf : Fr (fun k => k = rb) w (w.setCell ⟨rb, 1, none⟩ (.int .i64 err')) := (Fr.refl (fun k => k = rb) w).setCell (p := ⟨rb, 1, none⟩) (fun _ => rfl) _
  exact ⟨⟨two_setCell1 h.box, h.row.fr0 hf h.far, h.far⟩, hf⟩
theorem Rf.drew {w : World} {rb cap : Nat} {a : Option Addr} {l : List Nat} {err : Int} (h : Rf w rb a cap l err) : Rf w.drew rb a cap l err :=
  ⟨h.box, h.row.same (Fr.refl (fun _ => False) w).drew, h.far⟩

set_option maxRecDepth 100000 in
set_option maxHeartbeats 400000 in
theorem fnum_arg (p : Option Addr) (size : Int) (hs : sizedB size = false) (w : World) :
    Calls Try.prog 51 #[.pointer p, .int .i64 size] w fun e w' => e = .returned (.tuple #[.int .i64 0, .int .i64 1]) ∧ w' = w := by
  have HS : Hid (sizedB size = false) := hs
  clear hs
  go_enter Try.func51, Try.ntmps51
  go_wp2_with (go_at_call 96; refine (refSized_any _ _).mono ?_; rw [HS.out]; rintro e w' ⟨rfl, rfl⟩)
  go_ret2
  exact ⟨rfl, rfl⟩
set_option maxRecDepth 100000 in
set_option maxHeartbeats 400000 in
theorem fnum_stop (size : Int) (hs : sizedB size = true) (rb : Nat) (a : Option Addr) (cap : Nat) (l : List Nat) (err : Int) (herr : ¬ err = 0) (w : World) (h : Rf w rb a cap l err) :
    Calls Try.prog 51 #[.pointer (some ⟨rb, 0, none⟩), .int .i64 size] w fun e w' => e = .returned (.tuple #[.int .i64 0, .int .i64 err]) ∧ w' = w.drew := by
  obtain ⟨h0, h1, f0, f1⟩ := cell_of_two h.box
  have HS : Hid (sizedB size = true) := hs
  have hne : (err != 0) = true := by simpa using herr
  clear hs
  go_enter Try.func51, Try.ntmps51
  go_wp2_with (go_at_call 96; refine (refSized_any _ _).mono ?_; rw [HS.out]; rintro e w' ⟨rfl, rfl⟩)
  go_region
  all_goals
    go_wp2
    go_ret2
    exact ⟨rfl, rfl⟩
set_option maxRecDepth 100000 in
set_option maxHeartbeats 400000 in
theorem fnum_cut (size : Int) (hs : sizedB size = true) (rb : Nat) (a : Option Addr) (cap : Nat) (l : List Nat) (hlen : (l.length : Int) < size) (w : World) (h : Rf w rb a cap l 0) :
    Calls Try.prog 51 #[.pointer (some ⟨rb, 0, none⟩), .int .i64 size] w fun e w' => e = .returned (.tuple #[.int .i64 0, .int .i64 10]) ∧ w' = (w.setCell ⟨rb, 1, none⟩ (.int .i64 10)).drew := by
  obtain ⟨h0, h1, f0, f1⟩ := cell_of_two h.box
  have HS : Hid (sizedB size = true) := hs
  clear hs
  go_enter Try.func51, Try.ntmps51
  go_wp2_with (go_at_call 96; refine (refSized_any _ _).mono ?_; rw [HS.out]; rintro e w' ⟨rfl, rfl⟩)
  go_region
  all_goals
    go_wp2
    go_ret2
    exact ⟨rfl, rfl⟩
end Go.Proofs.Ytaaedmacefiinaa
/- What the document's own reader does: Num, where there are enough bytes. -/
namespace Go.Proofs.Ytaaedmacefiinaa
open Go.RowKit

theorem top_byte {l : List Nat} (ho : octs l) (h8 : l.length = 8) : (9223372036854775808 ≤ val l ↔ 127 < l.getD 7 0) := by
  have h1 := val_split l 7 (by omega)
  have h2 := val_drop l 7 (by omega)
  have h3 : l.drop 8 = [] := List.drop_eq_nil_of_le (by omega)
  rw [h3] at h2
  simp only [val, Nat.mul_zero, Nat.add_zero] at h2
  have h4 := val_lt (octs_take ho 7)
  have h5 : (l.take 7).length = 7 := by simp; omega
  rw [h5] at h4
  rw [h2] at h1
  omega
theorem small_val {l : List Nat} (ho : octs l) (h4 : l.length ≤ 4) : val l < 9223372036854775808 := by
  have h1 := val_lt ho
  have h2 : 256 ^ l.length ≤ 256 ^ 4 := Nat.pow_le_pow_right (by omega) h4
  omega

set_option maxRecDepth 100000 in
set_option maxHeartbeats 1000000 in
theorem fnum_big (rb b off cap : Nat) (l : List Nat) (hlen : 8 ≤ l.length) (hbig : 127 < l.getD 7 0) (w : World) (h : Rf w rb (some ⟨b, off, none⟩) cap l 0) (hc : ∀ i, i < l.length → w.cell? ⟨b, off + i, none⟩ = some (.int .u8 ((l.getD i 0 : Nat) : Int))) :
    Calls Try.prog 51 #[.pointer (some ⟨rb, 0, none⟩), .int .i64 8] w fun e w' => e = .returned (.tuple #[.int .i64 0, .int .i64 1]) ∧ w' = (w.setCell ⟨rb, 1, none⟩ (.int .i64 1)).drew := by
  obtain ⟨h0, h1, f0, f1⟩ := cell_of_two h.box
  have hle := h.row.le
  have hmx := h.row.max
  have hc7 := hc 7 (by omega)
  have hxl := octs_getD h.row.byte 7
  obtain ⟨x, hx⟩ : ∃ x, x = l.getD 7 0 := ⟨_, rfl⟩
  rw [← hx] at hc7 hbig hxl
  clear hx hc
  have i1 : (127 : Int) < (x : Int) := by omega
  have i2 : ¬ (l.length : Int) < 8 := by omega
  have i3 : (7 : Int) < (l.length : Int) := by omega
  have HS : Hid (sizedB 8 = true) := (by decide : sizedB 8 = true)
  go_enter Try.func51, Try.ntmps51
  go_wp2_with (go_at_call 96; refine (refSized_any _ _).mono ?_; rw [HS.out]; rintro e w' ⟨rfl, rfl⟩)
  refine wp_loop_rounds 1 ?_
  rw [rounds_succ]
  go_wp2
  go_region
  all_goals
    go_wp2
    go_ret2
    exact ⟨rfl, rfl⟩

set_option maxRecDepth 100000 in
set_option maxHeartbeats 2000000 in
theorem fnum_ok (size : Nat) (hsz : (size : Int) = 1 ∨ (size : Int) = 2 ∨ (size : Int) = 4 ∨ (size : Int) = 8) (rb b off cap : Nat) (l : List Nat) (hlen : size ≤ l.length) (hval : val (l.take size) < 9223372036854775808) (w : World) (h : Rf w rb (some ⟨b, off, none⟩) cap l 0) (hb : b < w.heap.size) (hc : ∀ i, i < l.length → w.cell? ⟨b, off + i, none⟩ = some (.int .u8 ((l.getD i 0 : Nat) : Int))) :
    Calls Try.prog 51 #[.pointer (some ⟨rb, 0, none⟩), .int .i64 size] w fun e w' => e = .returned (.tuple #[.int .i64 ((val (l.take size) : Nat) : Int), .int .i64 0]) ∧
      ∃ a' c', Rf w' rb a' c' (l.drop size) 0 ∧ Fr (fun k => k = rb) w w' ∧ Near (some ⟨b, off, none⟩) a' := by
  obtain ⟨h0, h1, f0, f1⟩ := cell_of_two h.box
  have hle := h.row.le
  have hmx := h.row.max
  have HS : Hid (sizedB (size : Int) = true) := decide_eq_true hsz
  have hpos : 0 < size ∧ size ≤ 8 := by omega
  have hx7 : size = 8 → l.getD 7 0 ≤ 127 := by
    intro e
    subst e
    have h8 : (l.take 8).length = 8 := by simp; omega
    have := top_byte (octs_take h.row.byte 8) h8
    have e7 : (l.take 8).getD 7 0 = l.getD 7 0 := by simp [List.getD_eq_getElem?_getD]
    rw [e7] at this
    omega
  have HX7 : Hid (size = 8 → l.getD 7 0 ≤ 127) := hx7
  have HC : Hid (∀ i, i < l.length → w.cell? ⟨b, off + i, none⟩ = some (.int .u8 ((l.getD i 0 : Nat) : Int))) := hc
  have HSZ : Hid ((size : Int) = 1 ∨ (size : Int) = 2 ∨ (size : Int) = 4 ∨ (size : Int) = 8) := hsz
  have htl : (l.take size).length = size := by simp; omega
  have HTL : Hid ((l.take size).length = size) := htl
  have HVB : Hid (∀ j, j ≤ size → val ((l.take size).drop j) < 9223372036854775808) := fun j hj => Nat.lt_of_le_of_lt (val_drop_le _ j (by omega)) hval
  have HVS : Hid (∀ j, j < size → val ((l.take size).drop j) = l.getD j 0 + 256 * val ((l.take size).drop (j + 1))) := fun j hj => by
    rw [val_drop _ j (by omega)]
    simp [List.getD_eq_getElem?_getD, hj]
  clear hc hx7 hsz htl
  have i2 : ¬ (l.length : Int) < (size : Int) := by omega
  have i4 : (size : Int) ≤ (cap : Int) := by omega
  go_enter Try.func51, Try.ntmps51
  go_wp2_with (go_at_call 96; refine (refSized_any _ _).mono ?_; rw [HS.out]; rintro e w' ⟨rfl, rfl⟩)
  go_loop [6, 7] (fun t i => ∃ j : Nat, j ≤ size ∧ i = .int .i64 ((j : Int) - 1) ∧ t = .int .i64 ((val ((l.take size).drop j) : Nat) : Int)) (fun _ i => ((intOf i) + 1).toNat)
  case atStart => exact ⟨size, Nat.le_refl _, rfl, by rw [List.drop_eq_nil_of_le (by rw [HTL.out]; exact Nat.le_refl _)]; rfl⟩
  case round =>
    obtain ⟨j, hj, rfl, rfl⟩ := hrel
    by_cases hj0 : j = 0
    · subst hj0
      have ev : (l.take size).drop 0 = l.take size := rfl
      rw [ev]
      obtain ⟨v, hv⟩ : ∃ v, v = val (l.take size) := ⟨_, rfl⟩
      have HV : Hid (val (l.take size) = v) := hv.symm
      rw [← hv]
      clear hv ev
      by_cases hcs : cap = size
      · subst hcs
        have hadv := h.advance hb HC.out cap hlen off (.inl rfl)
        have e0 : l.length - cap = 0 := by omega
        rw [e0, Nat.sub_self] at hadv
        clear e0
        go_wp2
        go_ret2
        obtain ⟨a', c', q1, q2, q3⟩ := hadv
        exact ⟨by rw [HV.out]; rfl, a', ⟨c', q1⟩, q2, q3⟩
      · have hadv := h.advance hb HC.out size hlen (off + size) (.inr rfl)
        go_wp2
        go_ret2
        obtain ⟨a', c', q1, q2, q3⟩ := hadv
        exact ⟨by rw [HV.out]; rfl, a', ⟨c', q1⟩, q2, q3⟩
    · obtain ⟨i, rfl⟩ : ∃ i, j = i + 1 := ⟨j - 1, by omega⟩
      have hci := HC.out i (by omega)
      have hxl := octs_getD h.row.byte i
      have hv1 := HVB.out (i + 1) hj
      have hv0 := HVB.out i (by omega)
      have hvs := HVS.out i (by omega)
      have h7 : i = 7 → l.getD i 0 ≤ 127 := fun e => by subst e; exact HX7.out (by omega)
      obtain ⟨x, hx⟩ : ∃ x, x = l.getD i 0 := ⟨_, rfl⟩
      rw [← hx] at hci hxl hvs h7
      clear hx
      obtain ⟨v1, hv1e⟩ : ∃ v, v = val ((l.take size).drop (i + 1)) := ⟨_, rfl⟩
      rw [← hv1e] at hv1 hvs ⊢
      clear hv1e
      have HV0 : Hid (val ((l.take size).drop i) = x + 256 * v1) := hvs
      rw [hvs] at hv0
      clear hvs
      have ei : (((i + 1 : Nat) : Int) - 1) = (i : Int) := by omega
      rw [ei]
      clear ei
      have q1 : (0 : Int) ≤ (i : Int) := by omega
      have q2 : (i : Int) < (l.length : Int) := by omega
      by_cases hi7 : i = 7
      · have hx127 := h7 hi7
        subst hi7
        have q3 : ¬ (127 : Int) < (x : Int) := by omega
        go_wp2
        go_round
        case rel => exact ⟨7, by omega, by go_num, by rw [HV0.out]; exact val_int (by omega)⟩
        case measure => simp [intOf]
      · have q3 : ((i : Int) == 7) = false := by simp; omega
        go_wp2
        go_round
        case rel => exact ⟨i, by omega, by go_num, by rw [HV0.out]; exact val_int (by omega)⟩
        case measure => simp [intOf]

theorem fnum_all (size : Int) (rb : Nat) (a : Option Addr) (cap : Nat) (st : RS) (w : World) (h : Rf w rb a cap st.1 st.2) :
    Calls Try.prog 51 #[.pointer (some ⟨rb, 0, none⟩), .int .i64 size] w fun e w' => e = .returned (.tuple #[.int .i64 (numS st size).1, .int .i64 (numS st size).2.1]) ∧
      ∃ a' c', Rf w' rb a' c' (numS st size).2.2.1 (numS st size).2.2.2 ∧ Fr (fun k => k = rb) w w' ∧ Near a a' := by
  obtain ⟨l, err⟩ := st
  by_cases hs : size = 1 ∨ size = 2 ∨ size = 4 ∨ size = 8
  · have hsb : sizedB size = true := decide_eq_true hs
    obtain ⟨sz, rfl⟩ := Int.eq_ofNat_of_zero_le (a := size) (by omega)
    by_cases he : err = 0
    · subst he
      by_cases hlt : l.length < sz
      · have e : numS (l, 0) sz = (0, 10, (l, 10)) := by unfold numS; rw [if_neg (not_not_intro hs), if_neg (by simp), if_pos (by simpa using hlt)]
        rw [e]
        refine (fnum_cut sz hsb rb a cap l (by omega) w h).mono ?_
        rintro e w' ⟨rfl, rfl⟩
        exact ⟨rfl, a, cap, (h.fail 10).1.drew, (h.fail 10).2.drew, Near.refl a⟩
      · obtain ⟨b, off, rfl, hb, hc⟩ : ∃ b off, a = some ⟨b, off, none⟩ ∧ b < w.heap.size ∧ ∀ i, i < l.length → w.cell? ⟨b, off + i, none⟩ = some (.int .u8 ((l.getD i 0 : Nat) : Int)) := by
          rcases h.row.at_ with e | e
          · have e' : l = [] := e
            rw [e'] at hlt; simp at hlt; omega
          · exact e
        have ho : octs l := h.row.byte
        by_cases hv : 9223372036854775808 ≤ val (l.take sz)
        · have e : numS (l, 0) sz = (0, 1, (l, 1)) := by unfold numS; rw [if_neg (not_not_intro hs), if_neg (by simp), if_neg (by simpa using hlt), if_pos (by simpa using hv)]
          rw [e]
          have h8 : sz = 8 := by
            have h1 : (l.take sz).length = sz := by simp; omega
            by_cases h4 : sz ≤ 4
            · have := small_val (octs_take ho sz) (by omega); omega
            · omega
          subst h8
          have ht8 : (l.take 8).length = 8 := by simp; omega
          have h7 := (top_byte (octs_take ho 8) ht8).mp hv
          have e7 : (l.take 8).getD 7 0 = l.getD 7 0 := by simp [List.getD_eq_getElem?_getD]
          rw [e7] at h7
          refine (fnum_big rb b off cap l (by omega) h7 w h hc).mono ?_
          rintro e w' ⟨rfl, rfl⟩
          exact ⟨rfl, _, cap, (h.fail 1).1.drew, (h.fail 1).2.drew, Near.refl _⟩
        · have e : numS (l, 0) sz = ((val (l.take sz) : Int), 0, (l.drop sz, 0)) := by unfold numS; rw [if_neg (not_not_intro hs), if_neg (by simp), if_neg (by simpa using hlt), if_neg (by simpa using hv)]; rfl
          rw [e]
          refine (fnum_ok sz hs rb b off cap l (by omega) (by omega) w h hb hc).mono ?_
          rintro e w' ⟨rfl, a', c', hrd, hf, hn⟩
          exact ⟨rfl, a', c', hrd, hf, hn⟩
    · have e : numS (l, err) sz = (0, err, (l, err)) := by unfold numS; rw [if_neg (not_not_intro hs), if_pos (by simpa using he)]
      rw [e]
      refine (fnum_stop sz hsb rb a cap l err he w h).mono ?_
      rintro e w' ⟨rfl, rfl⟩
      exact ⟨rfl, a, cap, h.drew, (Fr.refl _ _).drew, Near.refl a⟩
  · have e : numS (l, err) size = (0, 1, (l, err)) := by unfold numS; rw [if_pos hs]
    rw [e]
    refine (fnum_arg (some ⟨rb, 0, none⟩) size (decide_eq_false hs) w).mono ?_
    rintro e w' ⟨rfl, rfl⟩
    exact ⟨rfl, a, cap, h, Fr.refl _ _, Near.refl a⟩
end Go.Proofs.Ytaaedmacefiinaa
/- What the document's own reader does: Text. -/
namespace Go.Proofs.Ytaaedmacefiinaa
open Go.RowKit

set_option maxRecDepth 100000 in
set_option maxHeartbeats 400000 in
theorem ftext_arg (p : Option Addr) (most : Int) (hm : most < 0) (w : World) :
    Calls Try.prog 52 #[.pointer p, .int .i64 most] w fun e w' => e = .returned (.tuple #[.string ⟨#[]⟩, .int .i64 1]) ∧ w' = w := by
  go_enter Try.func52, Try.ntmps52
  go_wp2
  go_ret2
  exact ⟨rfl, rfl⟩
set_option maxRecDepth 100000 in
set_option maxHeartbeats 400000 in
theorem ftext_stop (most : Int) (hm : ¬ most < 0) (rb : Nat) (a : Option Addr) (cap : Nat) (l : List Nat) (err : Int) (herr : ¬ err = 0) (w : World) (h : Rf w rb a cap l err) :
    Calls Try.prog 52 #[.pointer (some ⟨rb, 0, none⟩), .int .i64 most] w fun e w' => e = .returned (.tuple #[.string ⟨#[]⟩, .int .i64 err]) ∧ w' = w.drew := by
  obtain ⟨h0, h1, f0, f1⟩ := cell_of_two h.box
  have hne : (err != 0) = true := by simpa using herr
  go_enter Try.func52, Try.ntmps52
  go_wp2
  go_region
  all_goals
    go_wp2
    go_ret2
    exact ⟨rfl, rfl⟩
set_option maxRecDepth 100000 in
set_option maxHeartbeats 400000 in
theorem ftext_cut0 (most : Int) (hm : ¬ most < 0) (rb : Nat) (a : Option Addr) (cap : Nat) (l : List Nat) (hlen : (l.length : Int) < 2) (w : World) (h : Rf w rb a cap l 0) :
    Calls Try.prog 52 #[.pointer (some ⟨rb, 0, none⟩), .int .i64 most] w fun e w' => e = .returned (.tuple #[.string ⟨#[]⟩, .int .i64 10]) ∧ w' = (w.setCell ⟨rb, 1, none⟩ (.int .i64 10)).drew := by
  obtain ⟨h0, h1, f0, f1⟩ := cell_of_two h.box
  go_enter Try.func52, Try.ntmps52
  go_wp2
  go_region
  all_goals
    go_wp2
    go_ret2
    exact ⟨rfl, rfl⟩

theorem val2 {l : List Nat} (h : 2 ≤ l.length) : val (l.take 2) = l.getD 0 0 + 256 * l.getD 1 0 := by
  match l, h with
  | x :: y :: r, _ => simp [val]

set_option maxRecDepth 100000 in
set_option maxHeartbeats 1000000 in
theorem ftext_bad (most : Int) (hm : ¬ most < 0) (rb b off cap : Nat) (l : List Nat) (hlen : 2 ≤ l.length) (err : Int) (hbad : (l.length < 2 + val (l.take 2) ∧ err = 10) ∨ (2 + val (l.take 2) ≤ l.length ∧ most < val (l.take 2) ∧ err = 2)) (w : World) (h : Rf w rb (some ⟨b, off, none⟩) cap l 0) (hc : ∀ i, i < l.length → w.cell? ⟨b, off + i, none⟩ = some (.int .u8 ((l.getD i 0 : Nat) : Int))) :
    Calls Try.prog 52 #[.pointer (some ⟨rb, 0, none⟩), .int .i64 most] w fun e w' => e = .returned (.tuple #[.string ⟨#[]⟩, .int .i64 err]) ∧ ∃ n m, w' = ((w.drewN n).setCell ⟨rb, 1, none⟩ (.int .i64 err)).drewN m := by
  obtain ⟨h0, h1, f0, f1⟩ := cell_of_two h.box
  have hmx := h.row.max
  have hle := h.row.le
  have c0 := hc 0 (by omega)
  have c1 := hc 1 (by omega)
  have x0 := octs_getD h.row.byte 0
  have x1 := octs_getD h.row.byte 1
  rw [val2 hlen] at hbad
  obtain ⟨x, hx⟩ : ∃ x, x = l.getD 0 0 := ⟨_, rfl⟩
  obtain ⟨y, hy⟩ : ∃ x, x = l.getD 1 0 := ⟨_, rfl⟩
  rw [← hx] at c0 x0 hbad
  rw [← hy] at c1 x1 hbad
  rw [Nat.add_zero] at c0
  clear hx hy hc
  have i1 : ¬ (l.length : Int) < 2 := by omega
  have i2 : (0 : Int) < (l.length : Int) := by omega
  have i3 : (1 : Int) < (l.length : Int) := by omega
  rcases hbad with ⟨hb, rfl⟩ | ⟨hb, hb2, rfl⟩
  · have i4 : (l.length : Int) < 2 + ((x : Int) + 256 * (y : Int)) := by omega
    go_enter Try.func52, Try.ntmps52
    go_wp2
    go_quiet (fail)
    go_wp2
    go_quiet (fail)
    go_wp2
    go_ret2
    exact ⟨rfl, _, _, rfl⟩
  · have i4 : ¬ (l.length : Int) < 2 + ((x : Int) + 256 * (y : Int)) := by omega
    have i5 : most < (x : Int) + 256 * (y : Int) := by omega
    go_enter Try.func52, Try.ntmps52
    go_wp2
    go_quiet (fail)
    go_wp2
    go_quiet (fail)
    go_wp2
    go_ret2
    exact ⟨rfl, _, _, rfl⟩



set_option maxRecDepth 100000 in
set_option maxHeartbeats 1000000 in
theorem ftext_ok (most : Int) (hm : ¬ most < 0) (rb b off cap : Nat) (l : List Nat) (hlen : 2 + val (l.take 2) ≤ l.length) (h2 : 2 ≤ l.length) (hmost : (val (l.take 2) : Int) ≤ most) (w : World) (h : Rf w rb (some ⟨b, off, none⟩) cap l 0) (hb : b < w.heap.size) (hc : ∀ i, i < l.length → w.cell? ⟨b, off + i, none⟩ = some (.int .u8 ((l.getD i 0 : Nat) : Int))) :
    Calls Try.prog 52 #[.pointer (some ⟨rb, 0, none⟩), .int .i64 most] w fun e w' => e = .returned (.tuple #[.string (strOf ((l.drop 2).take (val (l.take 2)))), .int .i64 0]) ∧
      ∃ a' c', Rf w' rb a' c' (l.drop (2 + val (l.take 2))) 0 ∧ Fr (fun k => k = rb) w w' ∧ Near (some ⟨b, off, none⟩) a' := by
  obtain ⟨h0, h1, f0, f1⟩ := cell_of_two h.box
  have hmx := h.row.max
  have hle := h.row.le
  have c0 := hc 0 (by omega)
  have c1 := hc 1 (by omega)
  have x0 := octs_getD h.row.byte 0
  have x1 := octs_getD h.row.byte 1
  have hv2 := val2 h2
  obtain ⟨x, hx⟩ : ∃ x, x = l.getD 0 0 := ⟨_, rfl⟩
  obtain ⟨y, hy⟩ : ∃ x, x = l.getD 1 0 := ⟨_, rfl⟩
  rw [← hx] at c0 x0 hv2
  rw [← hy] at c1 x1 hv2
  rw [Nat.add_zero] at c0
  rw [hv2] at hlen hmost ⊢
  clear hx hy hv2
  have i1 : ¬ (l.length : Int) < 2 := by omega
  have i2 : (0 : Int) < (l.length : Int) := by omega
  have i3 : (1 : Int) < (l.length : Int) := by omega
  have i4 : ¬ (l.length : Int) < 2 + ((x : Int) + 256 * (y : Int)) := by omega
  have i5 : ¬ most < (x : Int) + 256 * (y : Int) := by omega
  have i6 : (2 : Int) + ((x : Int) + 256 * (y : Int)) ≤ (cap : Int) := by omega
  have fq : ∀ n, Fr (fun _ => False) w (w.drewN n) := fun n => (Fr.refl (fun _ => False) w).drewN n
  have hq : ∀ n, Rf (w.drewN n) rb (some ⟨b, off, none⟩) cap l 0 := fun n => ⟨h.box, h.row.same (fq n), h.far⟩
  have hcq : ∀ n i, i < l.length → (w.drewN n).cell? ⟨b, off + i, none⟩ = some (.int .u8 ((l.getD i 0 : Nat) : Int)) := fun n i hi => hc i hi
  have HQ : Hid (∀ n, Rf (w.drewN n) rb (some ⟨b, off, none⟩) cap l 0) := hq
  have HCQ : Hid (∀ n i, i < l.length → (w.drewN n).cell? ⟨b, off + i, none⟩ = some (.int .u8 ((l.getD i 0 : Nat) : Int))) := hcq
  have hvt : x + 256 * y = ((l.drop 2).take (x + 256 * y)).length := by simp; omega
  clear hc hq hcq
  by_cases k2 : cap = 2
  · have hx0 : x = 0 := by omega
    have hy0 : y = 0 := by omega
    subst hx0 hy0
    subst k2
    have el : l.length - 2 = 0 := by omega
    have hcv := fun n => run_str (P := Try.prog) (src := 26) (dst := 9) Try.underlying26 Try.underlying5 Try.underlying9 (row_none (w.drewN n) (some ⟨b, off, none⟩)) 0 rfl
    clear hvt fq
    go_enter Try.func52, Try.ntmps52
    go_wp2
    go_quiet (fail)
    have hadv := (HQ.out nq).advance hb (HCQ.out nq) 2 (by omega) off (.inl rfl)
    rw [el, Nat.sub_self] at hadv
    clear el
    obtain ⟨a', c', q1, q2, q3⟩ := hadv
    have q4 := ((Fr.refl (fun k => k = rb) w).drewN nq).trans q2 (fun _ _ e => e)
    go_wp2
    go_ret2
    first | exact ⟨rfl, a', c', q1, q4, q3⟩ | exact ⟨rfl, a', ⟨c', q1⟩, q4, q3⟩
  · have hrow2 : Row w (some ⟨b, off + 2, none⟩) (cap - 2) (l.drop 2) := h.row.drop 2 (by omega) (off + 2) (.inr rfl) (.inr ⟨hb, fun i hi => HCQ.out 0 i hi⟩)
    have hcv := fun n => run_str (P := Try.prog) (src := 26) (dst := 9) Try.underlying26 Try.underlying5 Try.underlying9 ((hrow2.take (x + 256 * y)).same (fq n)) (x + 256 * y) hvt
    clear hvt fq
    by_cases kv : cap = 2 + (x + 256 * y)
    · subst kv
      have ec : 2 + (x + 256 * y) - 2 = x + 256 * y := by omega
      rw [ec] at hcv
      have el : l.length - (2 + (x + 256 * y)) = 0 := by omega
      go_enter Try.func52, Try.ntmps52
      go_wp2
      go_quiet (fail)
      have hadv := (HQ.out nq).advance hb (HCQ.out nq) (2 + (x + 256 * y)) (by omega) off (.inl rfl)
      rw [el, Nat.sub_self] at hadv
      clear el
      obtain ⟨a', c', q1, q2, q3⟩ := hadv
      have q4 := ((Fr.refl (fun k => k = rb) w).drewN nq).trans q2 (fun _ _ e => e)
      go_wp2
      go_ret2
      first | exact ⟨rfl, a', c', q1, q4, q3⟩ | exact ⟨rfl, a', ⟨c', q1⟩, q4, q3⟩
    · go_enter Try.func52, Try.ntmps52
      go_wp2
      go_quiet (fail)
      have hadv := (HQ.out nq).advance hb (HCQ.out nq) (2 + (x + 256 * y)) (by omega) (off + (2 + (x + 256 * y))) (.inr rfl)
      obtain ⟨a', c', q1, q2, q3⟩ := hadv
      have q4 := ((Fr.refl (fun k => k = rb) w).drewN nq).trans q2 (fun _ _ e => e)
      go_wp2
      go_ret2
      first | exact ⟨rfl, a', c', q1, q4, q3⟩ | exact ⟨rfl, a', ⟨c', q1⟩, q4, q3⟩

theorem ftext_all (most : Int) (rb : Nat) (a : Option Addr) (cap : Nat) (st : RS) (w : World) (h : Rf w rb a cap st.1 st.2) :
    Calls Try.prog 52 #[.pointer (some ⟨rb, 0, none⟩), .int .i64 most] w fun e w' => e = .returned (.tuple #[.string (strOf (textS st most).1), .int .i64 (textS st most).2.1]) ∧
      ∃ a' c', Rf w' rb a' c' (textS st most).2.2.1 (textS st most).2.2.2 ∧ Fr (fun k => k = rb) w w' ∧ Near a a' := by
  obtain ⟨l, err⟩ := st
  by_cases hm : most < 0
  · have e : textS (l, err) most = ([], 1, (l, err)) := by unfold textS; rw [if_pos hm]
    rw [e]
    refine (ftext_arg (some ⟨rb, 0, none⟩) most hm w).mono ?_
    rintro e w' ⟨rfl, rfl⟩
    exact ⟨rfl, a, cap, h, Fr.refl _ _, Near.refl a⟩
  · by_cases he : err = 0
    · subst he
      by_cases h2 : l.length < 2
      · have e : textS (l, 0) most = ([], 10, (l, 10)) := by unfold textS; rw [if_neg hm, if_neg (by simp), if_pos h2]
        rw [e]
        refine (ftext_cut0 most hm rb a cap l (by omega) w h).mono ?_
        rintro e w' ⟨rfl, rfl⟩
        exact ⟨rfl, a, cap, (h.fail 10).1.drew, (h.fail 10).2.drew, Near.refl a⟩
      · obtain ⟨b, off, rfl, hb, hc⟩ : ∃ b off, a = some ⟨b, off, none⟩ ∧ b < w.heap.size ∧ ∀ i, i < l.length → w.cell? ⟨b, off + i, none⟩ = some (.int .u8 ((l.getD i 0 : Nat) : Int)) := by
          rcases h.row.at_ with e | e
          · have e' : l = [] := e
            rw [e'] at h2; simp at h2
          · exact e
        have fin : ∀ (err' : Int) (n m : Nat), Rf (((w.drewN n).setCell ⟨rb, 1, none⟩ (.int .i64 err')).drewN m) rb (some ⟨b, off, none⟩) cap l err' ∧ Fr (fun k => k = rb) w (((w.drewN n).setCell ⟨rb, 1, none⟩ (.int .i64 err')).drewN m) := fun err' n m => by
          have hq : Rf (w.drewN n) rb (some ⟨b, off, none⟩) cap l 0 := ⟨h.box, h.row.same ((Fr.refl (fun _ => False) w).drewN n), h.far⟩
          obtain ⟨r1, r2⟩ := hq.fail err'
          exact ⟨⟨r1.box, r1.row.same ((Fr.refl (fun _ => False) _).drewN m), r1.far⟩, (((Fr.refl (fun k => k = rb) w).drewN n).trans r2 (fun _ _ e => e)).drewN m⟩
        by_cases hv : l.length < 2 + val (l.take 2)
        · have e : textS (l, 0) most = ([], 10, (l, 10)) := by unfold textS; rw [if_neg hm, if_neg (by simp), if_neg h2, if_pos hv]
          rw [e]
          refine (ftext_bad most hm rb b off cap l (by omega) 10 (.inl ⟨hv, rfl⟩) w h hc).mono ?_
          rintro e w' ⟨rfl, n, m, rfl⟩
          exact ⟨rfl, _, cap, (fin 10 n m).1, (fin 10 n m).2, Near.refl _⟩
        · by_cases hlong : most < val (l.take 2)
          · have e : textS (l, 0) most = ([], 2, (l, 2)) := by unfold textS; rw [if_neg hm, if_neg (by simp), if_neg h2, if_neg hv, if_pos hlong]
            rw [e]
            refine (ftext_bad most hm rb b off cap l (by omega) 2 (.inr ⟨by omega, hlong, rfl⟩) w h hc).mono ?_
            rintro e w' ⟨rfl, n, m, rfl⟩
            exact ⟨rfl, _, cap, (fin 2 n m).1, (fin 2 n m).2, Near.refl _⟩
          · have e : textS (l, 0) most = ((l.drop 2).take (val (l.take 2)), 0, (l.drop (2 + val (l.take 2)), 0)) := by unfold textS; rw [if_neg hm, if_neg (by simp), if_neg h2, if_neg hv, if_neg hlong]
            rw [e]
            refine (ftext_ok most hm rb b off cap l (by omega) (by omega) (by omega) w h hb hc).mono ?_
            rintro e w' ⟨rfl, a', c', hrd, hf, hn⟩
            exact ⟨rfl, a', c', hrd, hf, hn⟩
    · have e : textS (l, err) most = ([], err, (l, err)) := by unfold textS; rw [if_neg hm, if_pos (by simpa using he)]
      rw [e]
      refine (ftext_stop most hm rb a cap l err he w h).mono ?_
      rintro e w' ⟨rfl, rfl⟩
      exact ⟨rfl, a, cap, h.drew, (Fr.refl _ _).drew, Near.refl a⟩
end Go.Proofs.Ytaaedmacefiinaa
/- A node that is built field by field beside the document's reader. -/
namespace Go.Proofs.Ytaaedmacefiinaa
open Go.RowKit Crcm

theorem rf_fr {S : Nat → Prop} {w w' : World} {rb : Nat} {a : Option Addr} {cap : Nat} {l : List Nat} {err : Int} (h : Rf w rb a cap l err) (f : Fr S w w') (h1 : ¬ S rb) (h2 : ∀ b off sp, a = some ⟨b, off, sp⟩ → ¬ S b) : Rf w' rb a cap l err :=
  ⟨by rw [f.block rb (lt_of_block h.box) h1]; exact h.box, h.row.fr f h2, h.far⟩

/-- A node under way at block nk, a reader at rb, an answer at rs; what was there at W0 is as it was. -/
structure Rx (W0 w : World) (nk rb rs : Nat) (a : Option Addr) (cap : Nat) (s : RS) (n : Nd) (kv vv iv : Value) : Prop where
  box : w.heap[nk]? = some (.cells #[.int .i64 n.lev, .int .i64 n.lsn, .int .i64 n.rgt, .string n.high, kv, vv, iv] 25 (0, 0))
  nrb : rb < nk
  nrs : rs < nk
  rne : rs ≠ rb
  lrb : W0.heap.size ≤ rb
  lrs : W0.heap.size ≤ rs
  keys : Has w 1 kv n.keys.length (strCells n.keys)
  vals : Has w 1 vv n.vals.length (strCells n.vals)
  kids : Has w 1 iv n.kids.length (intCells n.kids)
  ok : ∀ g, kv.ownBlock = some g → nk < g
  ov : ∀ g, vv.ownBlock = some g → nk < g
  oi : ∀ g, iv.ownBlock = some g → nk < g
  nkv : ∀ g, kv.ownBlock = some g → vv.ownBlock ≠ some g
  nki : ∀ g, kv.ownBlock = some g → iv.ownBlock ≠ some g
  nvi : ∀ g, vv.ownBlock = some g → iv.ownBlock ≠ some g
  rf : Rf w rb a cap s.1 s.2
  alt : ∀ b off sp, a = some ⟨b, off, sp⟩ → b < W0.heap.size
  fr : Fr (fun _ => False) W0 w
  res : w.heap[rs]? = some (.cells #[.int .i64 0, .int .i64 0, .int .i64 0, .string ⟨#[]⟩, .slice none 0 0, .slice none 0 0, .slice none 0 0] 25 (0, 0))

section
variable {W0 w w' : World} {nk rb rs : Nat} {a a' : Option Addr} {cap c' : Nat} {s s' : RS} {n : Nd} {kv vv iv : Value}
/-- What leaves everything leaves it. -/
theorem Rx.same (h : Rx W0 w nk rb rs a cap s n kv vv iv) (f : Fr (fun _ => False) w w') : Rx W0 w' nk rb rs a cap s n kv vv iv :=
  ⟨by rw [f.block nk (lt_of_block h.box) (fun f => f)]; exact h.box, h.nrb, h.nrs, h.rne, h.lrb, h.lrs, h.keys.fr f (fun _ _ f => f), h.vals.fr f (fun _ _ f => f), h.kids.fr f (fun _ _ f => f), h.ok, h.ov, h.oi, h.nkv, h.nki, h.nvi, rf_fr h.rf f (fun f => f) (fun _ _ _ _ f => f), h.alt, h.fr.trans f (fun _ _ f => f), by rw [f.block _ (lt_of_block h.res) (fun f => f)]; exact h.res⟩
/-- The reader has gone on. -/
theorem Rx.goR (h : Rx W0 w nk rb rs a cap s n kv vv iv) (r : Rf w' rb a' c' s'.1 s'.2) (f : Fr (fun k => k = rb) w w') (na : Near a a') : Rx W0 w' nk rb rs a' c' s' n kv vv iv := by
  have h1 := h.nrb
  have h2 := h.rne
  have h3 := h.lrb
  exact ⟨by rw [f.block nk (lt_of_block h.box) (by omega)]; exact h.box, h.nrb, h.nrs, h.rne, h.lrb, h.lrs, h.keys.fr f (fun g e e2 => by have := h.ok g e; omega), h.vals.fr f (fun g e e2 => by have := h.ov g e; omega), h.kids.fr f (fun g e e2 => by have := h.oi g e; omega),
    h.ok, h.ov, h.oi, h.nkv, h.nki, h.nvi, r, (fun b off sp e => by obtain ⟨o, t, e2⟩ := na b off sp e; exact h.alt b o t e2), h.fr.trans f (S := fun _ => False) (fun i hi e => by omega), by rw [f.block _ (lt_of_block h.res) (by omega)]; exact h.res⟩
/-- A field of the node, or one of its lists, is stored anew. -/
theorem Rx.put (h : Rx W0 w nk rb rs a cap s n kv vv iv) (j : Nat) (x : Value) (m : Nd) (kv' vv' iv' : Value)
    (hb : (#[.int .i64 n.lev, .int .i64 n.lsn, .int .i64 n.rgt, .string n.high, kv, vv, iv] : Array Value).setIfInBounds j x = #[.int .i64 m.lev, .int .i64 m.lsn, .int .i64 m.rgt, .string m.high, kv', vv', iv'])
    (hk : Has w 1 kv' m.keys.length (strCells m.keys)) (hv : Has w 1 vv' m.vals.length (strCells m.vals)) (hi : Has w 1 iv' m.kids.length (intCells m.kids))
    (ok : ∀ g, kv'.ownBlock = some g → nk < g) (ov : ∀ g, vv'.ownBlock = some g → nk < g) (oi : ∀ g, iv'.ownBlock = some g → nk < g)
    (nkv : ∀ g, kv'.ownBlock = some g → vv'.ownBlock ≠ some g) (nki : ∀ g, kv'.ownBlock = some g → iv'.ownBlock ≠ some g) (nvi : ∀ g, vv'.ownBlock = some g → iv'.ownBlock ≠ some g) :
    Rx W0 (w.setCell ⟨nk, j, none⟩ x) nk rb rs a cap s m kv' vv' iv' := by
  have h1 := h.nrb
  have h2 := h.nrs
  have h3 := h.lrb
  have h4 := h.lrs
  have f : Fr (fun k => k = nk) w (w.setCell ⟨nk, j, none⟩ x) := (Fr.refl (fun k => k = nk) w).setCell (p := ⟨nk, j, none⟩) (fun _ => rfl) _
  exact ⟨by rw [node_setCell h.box, hb], h.nrb, h.nrs, h.rne, h.lrb, h.lrs, hk.fr f (fun g e e2 => by have := ok g e; omega), hv.fr f (fun g e e2 => by have := ov g e; omega), hi.fr f (fun g e e2 => by have := oi g e; omega),
    ok, ov, oi, nkv, nki, nvi, rf_fr h.rf f (by omega) (fun b off sp e => by have := h.alt b off sp e; omega), h.alt, h.fr.trans f (fun i hi e => by omega), by rw [f.block _ (lt_of_block h.res) (by omega)]; exact h.res⟩
end
section
variable {W0 w : World} {nk rb rs : Nat} {a : Option Addr} {cap : Nat} {s : RS} {n : Nd} {kv vv iv : Value}
theorem Rx.lev (h : Rx W0 w nk rb rs a cap s n kv vv iv) (x : Int) : Rx W0 (w.setCell ⟨nk, 0, none⟩ (.int .i64 x)) nk rb rs a cap s { n with lev := x } kv vv iv :=
  h.put 0 _ { n with lev := x } kv vv iv rfl h.keys h.vals h.kids h.ok h.ov h.oi h.nkv h.nki h.nvi
theorem Rx.lsn (h : Rx W0 w nk rb rs a cap s n kv vv iv) (x : Int) : Rx W0 (w.setCell ⟨nk, 1, none⟩ (.int .i64 x)) nk rb rs a cap s { n with lsn := x } kv vv iv :=
  h.put 1 _ { n with lsn := x } kv vv iv rfl h.keys h.vals h.kids h.ok h.ov h.oi h.nkv h.nki h.nvi
theorem Rx.rgt (h : Rx W0 w nk rb rs a cap s n kv vv iv) (x : Int) : Rx W0 (w.setCell ⟨nk, 2, none⟩ (.int .i64 x)) nk rb rs a cap s { n with rgt := x } kv vv iv :=
  h.put 2 _ { n with rgt := x } kv vv iv rfl h.keys h.vals h.kids h.ok h.ov h.oi h.nkv h.nki h.nvi
theorem Rx.high (h : Rx W0 w nk rb rs a cap s n kv vv iv) (x : ByteArray) : Rx W0 (w.setCell ⟨nk, 3, none⟩ (.string x)) nk rb rs a cap s { n with high := x } kv vv iv :=
  h.put 3 _ { n with high := x } kv vv iv rfl h.keys h.vals h.kids h.ok h.ov h.oi h.nkv h.nki h.nvi

/-- What an append onto one of its lists leaves. -/
theorem Rx.grow {w1 : World} {v : Value} (h : Rx W0 w nk rb rs a cap s n kv vv iv) (f : Fr (fun k => v.ownBlock = some k ∧ 0 < 1) w w1) (ov : ∀ g, v.ownBlock = some g → nk < g) :
    w1.heap[nk]? = some (.cells #[.int .i64 n.lev, .int .i64 n.lsn, .int .i64 n.rgt, .string n.high, kv, vv, iv] 25 (0, 0)) ∧ Rf w1 rb a cap s.1 s.2 ∧ Fr (fun _ => False) W0 w1 ∧
    w1.heap[rs]? = some (.cells #[.int .i64 0, .int .i64 0, .int .i64 0, .string ⟨#[]⟩, .slice none 0 0, .slice none 0 0, .slice none 0 0] 25 (0, 0)) := by
  have h1 := h.nrb
  have h2 := h.nrs
  have h3 := h.lrb
  have h4 := h.lrs
  refine ⟨by rw [f.block nk (lt_of_block h.box) (fun e => by have := ov nk e.1; omega)]; exact h.box, rf_fr h.rf f (fun e => by have := ov _ e.1; omega) (fun b off sp e e2 => by have := h.alt b off sp e; have := ov _ e2.1; omega), h.fr.trans f (fun i hi e => by have := ov _ e.1; omega), by rw [f.block _ (lt_of_block h.res) (fun e => by have := ov _ e.1; omega)]; exact h.res⟩

theorem Rx.key (h : Rx W0 w nk rb rs a cap s n kv vv iv) (x : ByteArray) (hl : n.keys.length ≤ 100000) :
    ∃ a7 c7 w7, (Builtin.append_ #[22, 22] 22 #[kv, (.slice (some ⟨w.heap.size, 0, none⟩) 1 1)]).run Try.prog (w.alloc (.cells #[.string x] 9)) = .ok (.slice a7 (n.keys.length + 1) c7) w7 ∧
      w7.cell? ⟨nk, 4, none⟩ = some kv ∧ w7.frozen? ⟨nk, 4, none⟩ = false ∧ Rx W0 (w7.setCell ⟨nk, 4, none⟩ (.slice a7 (n.keys.length + 1) c7)) nk rb rs a cap s { n with keys := n.keys ++ [x] } (.slice a7 (n.keys.length + 1) c7) vv iv := by
  obtain ⟨i0, hi, hz0, hz1, hz2⟩ := info_parts infoStr
  have h1 := h.same (Fr.box w (.cells #[.string x] 9))
  have hb := heap_alloc_new w (.cells #[.string x] 9)
  obtain ⟨v', w7, hrun, hh, hf, ho⟩ := run_append_has (P := Try.prog) (w.alloc (.cells #[.string x] 9)) 22 22 22 9 9 i0 (.string ⟨#[]⟩) 1 16 Try.underlying22 Try.underlying22 hi hz0 hz1 hz2 rfl (by omega) kv n.keys.length (strCells n.keys) h1.keys
    (some ⟨w.heap.size, 0, none⟩) 1 1 [.string x] rfl (.inr ⟨w.heap.size, 0, rfl, range_block hb (fun j v hv => by rw [Nat.zero_add]; simpa using hv)⟩) (by simp [Value.oneCell']) (by unfold maxLen; omega) (by omega)
  obtain ⟨a7, c7, rfl, _, _⟩ := hh.slice
  obtain ⟨g1, g2, g3, g4⟩ := h1.grow hf h1.ok
  obtain ⟨⟨_, _, _, _, c4, _, _⟩, fz⟩ := node_cells g1
  have hsz : (w.alloc (.cells #[.string x] 9)).heap.size = w.heap.size + 1 := by simp
  rw [hsz] at ho
  have hnk := lt_of_block h.box
  have hv7 := h1.vals.fr hf (fun g e e2 => h.nkv g e2.1 e)
  have hi7 := h1.kids.fr hf (fun g e e2 => h.nki g e2.1 e)
  have f : Fr (fun k => k = nk) w7 (w7.setCell ⟨nk, 4, none⟩ (.slice a7 (n.keys.length + 1) c7)) := (Fr.refl (fun k => k = nk) w7).setCell (p := ⟨nk, 4, none⟩) (fun _ => rfl) _
  have h1 := h.nrb
  have h2 := h.nrs
  have h3 := h.lrb
  have h4 := h.lrs
  have ok' := own_new ho hnk h.ok
  refine ⟨a7, c7, w7, hrun, c4, fz 4, ⟨by rw [node_setCell g1]; rfl, h.nrb, h.nrs, h.rne, h.lrb, h.lrs, ?_, hv7.fr f (fun g e e2 => by have := h.ov g e; omega), hi7.fr f (fun g e e2 => by have := h.oi g e; omega), ok', h.ov, h.oi, own_apart ho (fun g e => h.vals.lt e) h.nkv, own_apart ho (fun g e => h.kids.lt e) h.nki, h.nvi, rf_fr g2 f (by omega) (fun b off sp e => by have := h.alt b off sp e; omega), h.alt, g3.trans f (fun i hi e => by omega), by rw [f.block _ (lt_of_block g4) (by omega)]; exact g4⟩⟩
  have : Has w7 1 (.slice a7 (n.keys.length + 1) c7) (n.keys ++ [x]).length (strCells (n.keys ++ [x])) := by
    rw [List.length_append]; simpa [strCells] using hh
  exact this.fr f (fun g e e2 => by have := ok' g e; omega)
theorem Rx.val (h : Rx W0 w nk rb rs a cap s n kv vv iv) (x : ByteArray) (hl : n.vals.length ≤ 100000) :
    ∃ a7 c7 w7, (Builtin.append_ #[22, 22] 22 #[vv, (.slice (some ⟨w.heap.size, 0, none⟩) 1 1)]).run Try.prog (w.alloc (.cells #[.string x] 9)) = .ok (.slice a7 (n.vals.length + 1) c7) w7 ∧
      w7.cell? ⟨nk, 5, none⟩ = some vv ∧ w7.frozen? ⟨nk, 5, none⟩ = false ∧ Rx W0 (w7.setCell ⟨nk, 5, none⟩ (.slice a7 (n.vals.length + 1) c7)) nk rb rs a cap s { n with vals := n.vals ++ [x] } kv (.slice a7 (n.vals.length + 1) c7) iv := by
  obtain ⟨i0, hi, hz0, hz1, hz2⟩ := info_parts infoStr
  have h1 := h.same (Fr.box w (.cells #[.string x] 9))
  have hb := heap_alloc_new w (.cells #[.string x] 9)
  obtain ⟨v', w7, hrun, hh, hf, ho⟩ := run_append_has (P := Try.prog) (w.alloc (.cells #[.string x] 9)) 22 22 22 9 9 i0 (.string ⟨#[]⟩) 1 16 Try.underlying22 Try.underlying22 hi hz0 hz1 hz2 rfl (by omega) vv n.vals.length (strCells n.vals) h1.vals
    (some ⟨w.heap.size, 0, none⟩) 1 1 [.string x] rfl (.inr ⟨w.heap.size, 0, rfl, range_block hb (fun j v hv => by rw [Nat.zero_add]; simpa using hv)⟩) (by simp [Value.oneCell']) (by unfold maxLen; omega) (by omega)
  obtain ⟨a7, c7, rfl, _, _⟩ := hh.slice
  obtain ⟨g1, g2, g3, g4⟩ := h1.grow hf h1.ov
  obtain ⟨⟨_, _, _, _, _, c5, _⟩, fz⟩ := node_cells g1
  have hsz : (w.alloc (.cells #[.string x] 9)).heap.size = w.heap.size + 1 := by simp
  rw [hsz] at ho
  have hnk := lt_of_block h.box
  have hk7 := h1.keys.fr hf (fun g e e2 => h.nkv g e e2.1)
  have hi7 := h1.kids.fr hf (fun g e e2 => h.nvi g e2.1 e)
  have f : Fr (fun k => k = nk) w7 (w7.setCell ⟨nk, 5, none⟩ (.slice a7 (n.vals.length + 1) c7)) := (Fr.refl (fun k => k = nk) w7).setCell (p := ⟨nk, 5, none⟩) (fun _ => rfl) _
  have h1 := h.nrb
  have h2 := h.nrs
  have h3 := h.lrb
  have h4 := h.lrs
  have ok' := own_new ho hnk h.ov
  refine ⟨a7, c7, w7, hrun, c5, fz 5, ⟨by rw [node_setCell g1]; rfl, h.nrb, h.nrs, h.rne, h.lrb, h.lrs, hk7.fr f (fun g e e2 => by have := h.ok g e; omega), ?_, hi7.fr f (fun g e e2 => by have := h.oi g e; omega), h.ok, ok', h.oi, own_apart' ho (fun g e => h.keys.lt e) h.nkv, h.nki, own_apart ho (fun g e => h.kids.lt e) h.nvi, rf_fr g2 f (by omega) (fun b off sp e => by have := h.alt b off sp e; omega), h.alt, g3.trans f (fun i hi e => by omega), by rw [f.block _ (lt_of_block g4) (by omega)]; exact g4⟩⟩
  have : Has w7 1 (.slice a7 (n.vals.length + 1) c7) (n.vals ++ [x]).length (strCells (n.vals ++ [x])) := by
    rw [List.length_append]; simpa [strCells] using hh
  exact this.fr f (fun g e e2 => by have := ok' g e; omega)
theorem Rx.kid (h : Rx W0 w nk rb rs a cap s n kv vv iv) (x : Int) (hl : n.kids.length ≤ 100000) :
    ∃ a7 c7 w7, (Builtin.append_ #[23, 23] 23 #[iv, (.slice (some ⟨w.heap.size, 0, none⟩) 1 1)]).run Try.prog (w.alloc (.cells #[.int .i64 x] 3)) = .ok (.slice a7 (n.kids.length + 1) c7) w7 ∧
      w7.cell? ⟨nk, 6, none⟩ = some iv ∧ w7.frozen? ⟨nk, 6, none⟩ = false ∧ Rx W0 (w7.setCell ⟨nk, 6, none⟩ (.slice a7 (n.kids.length + 1) c7)) nk rb rs a cap s { n with kids := n.kids ++ [x] } kv vv (.slice a7 (n.kids.length + 1) c7) := by
  obtain ⟨i0, hi, hz0, hz1, hz2⟩ := info_parts infoInt
  have h1 := h.same (Fr.box w (.cells #[.int .i64 x] 3))
  have hb := heap_alloc_new w (.cells #[.int .i64 x] 3)
  obtain ⟨v', w7, hrun, hh, hf, ho⟩ := run_append_has (P := Try.prog) (w.alloc (.cells #[.int .i64 x] 3)) 23 23 23 3 3 i0 (.int .i64 0) 1 8 Try.underlying23 Try.underlying23 hi hz0 hz1 hz2 rfl (by omega) iv n.kids.length (intCells n.kids) h1.kids
    (some ⟨w.heap.size, 0, none⟩) 1 1 [.int .i64 x] rfl (.inr ⟨w.heap.size, 0, rfl, range_block hb (fun j v hv => by rw [Nat.zero_add]; simpa using hv)⟩) (by simp [Value.oneCell']) (by unfold maxLen; omega) (by omega)
  obtain ⟨a7, c7, rfl, _, _⟩ := hh.slice
  obtain ⟨g1, g2, g3, g4⟩ := h1.grow hf h1.oi
  obtain ⟨⟨_, _, _, _, _, _, c6⟩, fz⟩ := node_cells g1
  have hsz : (w.alloc (.cells #[.int .i64 x] 3)).heap.size = w.heap.size + 1 := by simp
  rw [hsz] at ho
  have hnk := lt_of_block h.box
  have hk7 := h1.keys.fr hf (fun g e e2 => h.nki g e e2.1)
  have hv7 := h1.vals.fr hf (fun g e e2 => h.nvi g e e2.1)
  have f : Fr (fun k => k = nk) w7 (w7.setCell ⟨nk, 6, none⟩ (.slice a7 (n.kids.length + 1) c7)) := (Fr.refl (fun k => k = nk) w7).setCell (p := ⟨nk, 6, none⟩) (fun _ => rfl) _
  have h1 := h.nrb
  have h2 := h.nrs
  have h3 := h.lrb
  have h4 := h.lrs
  have ok' := own_new ho hnk h.oi
  refine ⟨a7, c7, w7, hrun, c6, fz 6, ⟨by rw [node_setCell g1]; rfl, h.nrb, h.nrs, h.rne, h.lrb, h.lrs, hk7.fr f (fun g e e2 => by have := h.ok g e; omega), hv7.fr f (fun g e e2 => by have := h.ov g e; omega), ?_, h.ok, h.ov, ok', h.nkv, own_apart' ho (fun g e => h.keys.lt e) h.nki, own_apart' ho (fun g e => h.vals.lt e) h.nvi, rf_fr g2 f (by omega) (fun b off sp e => by have := h.alt b off sp e; omega), h.alt, g3.trans f (fun i hi e => by omega), by rw [f.block _ (lt_of_block g4) (by omega)]; exact g4⟩⟩
  have : Has w7 1 (.slice a7 (n.kids.length + 1) c7) (n.kids ++ [x]).length (intCells (n.kids ++ [x])) := by
    rw [List.length_append]; simpa [intCells] using hh
  exact this.fr f (fun g e e2 => by have := ok' g e; omega)
end
end Go.Proofs.Ytaaedmacefiinaa
/- What the document's Decode reads. -/
namespace Go.Proofs.Ytaaedmacefiinaa
open Go.RowKit Crcm

/-- The entries that the document reads, so many at most, until one fails. -/
def rentL (leaf : Bool) : Nat → Nd × RS → Nd × RS
  | 0, x => x
  | c + 1, x =>
    if x.2.2 = 0 then
      (if leaf = true then rentL leaf c (upL x.1 [strOf (textS x.2 256).1] [strOf (textS (textS x.2 256).2.2 256).1], (textS (textS x.2 256).2.2 256).2.2)
       else rentL leaf c (upI x.1 [strOf (textS x.2 256).1] [(numS (textS x.2 256).2.2 4).1], (numS (textS x.2 256).2.2 4).2.2))
    else x
def rnodeS (s : RS) : Nd × RS :=
  if (numS s 1).1 = 0 then
    rentL true (numS (numS (numS (numS s 1).2.2 8).2.2 4).2.2 2).1.toNat (⟨(numS s 1).1, (numS (numS s 1).2.2 8).1, (numS (numS (numS s 1).2.2 8).2.2 4).1, strOf (textS (numS (numS (numS (numS s 1).2.2 8).2.2 4).2.2 2).2.2 256).1, [], [], []⟩, (textS (numS (numS (numS (numS s 1).2.2 8).2.2 4).2.2 2).2.2 256).2.2)
  else
    rentL false (numS (numS (numS (numS s 1).2.2 8).2.2 4).2.2 2).1.toNat (⟨(numS s 1).1, (numS (numS s 1).2.2 8).1, (numS (numS (numS s 1).2.2 8).2.2 4).1, strOf (textS (numS (numS (numS (numS s 1).2.2 8).2.2 4).2.2 2).2.2 256).1, [], [], [(numS (textS (numS (numS (numS (numS s 1).2.2 8).2.2 4).2.2 2).2.2 256).2.2 4).1]⟩, (numS (textS (numS (numS (numS (numS s 1).2.2 8).2.2 4).2.2 2).2.2 256).2.2 4).2.2)
theorem rentL_stop (leaf : Bool) (c : Nat) (x : Nd × RS) (h : x.2.2 ≠ 0) : rentL leaf c x = x := by
  cases c with
  | zero => rfl
  | succ c => simp only [rentL]; rw [if_neg h]
theorem rentL_leaf (c : Nat) (n : Nd) (s : RS) (t u : List Nat × Int × RS) (h : s.2 = 0) (ht : t = textS s 256) (hu : u = textS t.2.2 256) : rentL true (c + 1) (n, s) = rentL true c ({ n with keys := n.keys ++ [strOf t.1], vals := n.vals ++ [strOf u.1] }, u.2.2) := by
  subst ht; subst hu
  simp only [rentL]
  rw [if_pos h, if_pos trivial]
theorem rentL_inner (c : Nat) (n : Nd) (s : RS) (t : List Nat × Int × RS) (u : Int × Int × RS) (h : s.2 = 0) (ht : t = textS s 256) (hu : u = numS t.2.2 4) : rentL false (c + 1) (n, s) = rentL false c ({ n with keys := n.keys ++ [strOf t.1], kids := n.kids ++ [u.1] }, u.2.2) := by
  subst ht; subst hu
  simp only [rentL]
  rw [if_pos h, if_neg (by simp)]
theorem numS_st (k v : Nat) (hk : k = 1 ∨ k = 2 ∨ k = 4 ∨ k = 8) (hv : v < 256 ^ k) (hv2 : v < 9223372036854775808) (r : List Nat) : (numS (le k v ++ r, 0) (k : Int)).1 = (v : Int) ∧ (numS (le k v ++ r, 0) (k : Int)).2.2 = (r, 0) := by
  have := numF_st k v hk hv hv2 r
  unfold numF at this
  simp only [Prod.mk.injEq] at this
  exact ⟨this.1, this.2.1⟩
theorem textS_st (s : ByteArray) (m : Nat) (hs : s.size ≤ m) (hm : m ≤ 65535) (r : List Nat) : strOf (textS (txt s ++ r, 0) (m : Int)).1 = s ∧ (textS (txt s ++ r, 0) (m : Int)).2.2 = (r, 0) := by
  have := textF_st s m hs hm r
  unfold textF at this
  simp only [Prod.mk.injEq] at this
  exact ⟨this.1, this.2.1⟩
theorem rleaf_fwd (c : Nat) : ∀ (n : Nd) (K V : List ByteArray) (r : List Nat), n.lev = 0 → n.vals.length = n.keys.length → K.length = c → V.length = c → (∀ s ∈ K, s.size ≤ 16) → (∀ s ∈ V, s.size ≤ 32) →
    rentL true c (n, (ensR (upL n K V) n.keys.length c ++ r, 0)) = (upL n K V, (r, 0)) := by
  induction c with
  | zero =>
    intro n K V r _ _ hK hV _ _
    rw [List.length_eq_zero_iff.1 hK, List.length_eq_zero_iff.1 hV]
    simp [rentL, upL, ensR]
  | succ c ih =>
    intro n K V r h0 hv hK hV sK sV
    obtain ⟨k, K', rfl⟩ := List.exists_cons_of_length_eq_add_one hK
    obtain ⟨v, V', rfl⟩ := List.exists_cons_of_length_eq_add_one hV
    rw [ensR, en_leaf n h0 hv, List.append_assoc, List.append_assoc]
    have e1 := textS_st k 256 (Nat.le_trans (sK k (by simp)) (by omega)) (by omega) (txt v ++ (ensR (upL n (k :: K') (v :: V')) (n.keys.length + 1) c ++ r))
    have e2 := textS_st v 256 (Nat.le_trans (sV v (by simp)) (by omega)) (by omega) (ensR (upL n (k :: K') (v :: V')) (n.keys.length + 1) c ++ r)
    rw [show ((256 : Nat) : Int) = 256 from rfl] at e1 e2
    simp only [rentL, if_true]
    rw [e1.1, e1.2, e2.1, e2.2]
    have := ih (upL n [k] [v]) K' V' r h0 (by simp [hv]) (by simpa using hK) (by simpa using hV) (fun s hs => sK s (by simp [hs])) (fun s hs => sV s (by simp [hs]))
    rw [upL_up] at this
    simpa [upL] using this
theorem rinner_fwd (c : Nat) : ∀ (n : Nd) (K : List ByteArray) (I : List Int) (r : List Nat), ¬ n.lev = 0 → n.kids.length = n.keys.length + 1 → K.length = c → I.length = c → (∀ s ∈ K, s.size ≤ 16) → (∀ x ∈ I, 0 ≤ x ∧ x ≤ 4096) →
    rentL false c (n, (ensR (upI n K I) n.keys.length c ++ r, 0)) = (upI n K I, (r, 0)) := by
  induction c with
  | zero =>
    intro n K I r _ _ hK hI _ _
    rw [List.length_eq_zero_iff.1 hK, List.length_eq_zero_iff.1 hI]
    simp [rentL, upI, ensR]
  | succ c ih =>
    intro n K I r h0 hv hK hI sK sI
    obtain ⟨k, K', rfl⟩ := List.exists_cons_of_length_eq_add_one hK
    obtain ⟨v, I', rfl⟩ := List.exists_cons_of_length_eq_add_one hI
    have hvb := sI v (by simp)
    rw [ensR, en_inner n h0 hv, List.append_assoc, List.append_assoc]
    have e1 := textS_st k 256 (Nat.le_trans (sK k (by simp)) (by omega)) (by omega) (le 4 v.toNat ++ (ensR (upI n (k :: K') (v :: I')) (n.keys.length + 1) c ++ r))
    have e2 := numS_st 4 v.toNat (by omega) (by omega) (by omega) (ensR (upI n (k :: K') (v :: I')) (n.keys.length + 1) c ++ r)
    rw [show ((256 : Nat) : Int) = 256 from rfl] at e1
    rw [show ((4 : Nat) : Int) = 4 from rfl, Int.toNat_of_nonneg hvb.1] at e2
    simp only [rentL, if_true, Bool.false_eq_true, if_false]
    rw [e1.1, e1.2, e2.1, e2.2]
    have := ih (upI n [k] [v]) K' I' r h0 (by simp [hv]) (by simpa using hK) (by simpa using hI) (fun s hs => sK s (by simp [hs])) (fun s hs => sI s (by simp [hs]))
    rw [upI_up] at this
    simpa [upI] using this
theorem rnode_fwd (n : Nd) (r : Rt n) (z : List Nat) : rnodeS (nb n ++ z, 0) = (n, (z, 0)) := by
  have hfew := keys_few r
  have a1 := r.lev0
  have a2 := r.lev1
  have a3 := r.lsn0
  have a4 := r.lsn1
  have a5 := r.rgt0
  have a6 := r.rgt1
  have a7 := r.high
  have hk := size_of_mem (fun i hi => (r.keys i hi).1.2)
  obtain ⟨lev, lsn, rgt, hi, keys, vals, kids⟩ := n
  simp only [] at hfew a1 a2 a3 a4 a5 a6 a7 hk
  obtain ⟨v1, rfl⟩ := Int.eq_ofNat_of_zero_le a1
  obtain ⟨v2, rfl⟩ := Int.eq_ofNat_of_zero_le a3
  obtain ⟨v3, rfl⟩ := Int.eq_ofNat_of_zero_le a5
  by_cases h0 : (v1 : Int) = 0
  · obtain ⟨hv, hkd, hx⟩ := r.leaf h0
    have hxs := size_of_mem hx
    simp only [] at hv hkd hxs
    have ek : kids = [] := List.length_eq_zero_iff.1 hkd
    subst ek
    have en0 : nb ⟨v1, v2, v3, hi, keys, vals, []⟩ ++ z = le 1 v1 ++ (le 8 v2 ++ (le 4 v3 ++ (le 2 keys.length ++ (txt hi ++ (ensR ⟨v1, v2, v3, hi, keys, vals, []⟩ 0 keys.length ++ z))))) := by
      unfold nb hd
      rw [if_pos h0, ens_all]
      simp only [Int.toNat_natCast, List.append_nil, List.append_assoc]
    rw [en0]
    have b1 := numS_st 1 v1 (by omega) (by omega) (by omega) (le 8 v2 ++ (le 4 v3 ++ (le 2 keys.length ++ (txt hi ++ (ensR ⟨v1, v2, v3, hi, keys, vals, []⟩ 0 keys.length ++ z)))))
    have b2 := numS_st 8 v2 (by omega) (by omega) (by omega) (le 4 v3 ++ (le 2 keys.length ++ (txt hi ++ (ensR ⟨v1, v2, v3, hi, keys, vals, []⟩ 0 keys.length ++ z))))
    have b3 := numS_st 4 v3 (by omega) (by omega) (by omega) (le 2 keys.length ++ (txt hi ++ (ensR ⟨v1, v2, v3, hi, keys, vals, []⟩ 0 keys.length ++ z)))
    have b4 := numS_st 2 keys.length (by omega) (by omega) (by omega) (txt hi ++ (ensR ⟨v1, v2, v3, hi, keys, vals, []⟩ 0 keys.length ++ z))
    have b5 := textS_st hi 256 (by omega) (by omega) (ensR ⟨v1, v2, v3, hi, keys, vals, []⟩ 0 keys.length ++ z)
    rw [show ((1 : Nat) : Int) = 1 from rfl] at b1
    rw [show ((8 : Nat) : Int) = 8 from rfl] at b2
    rw [show ((4 : Nat) : Int) = 4 from rfl] at b3
    rw [show ((2 : Nat) : Int) = 2 from rfl] at b4
    rw [show ((256 : Nat) : Int) = 256 from rfl] at b5
    unfold rnodeS
    rw [b1.1, b1.2, b2.1, b2.2, b3.1, b3.2, b4.1, b4.2, b5.1, b5.2, if_pos h0, Int.toNat_natCast]
    have := rleaf_fwd keys.length ⟨v1, v2, v3, hi, [], [], []⟩ keys vals z h0 rfl rfl hv hk hxs
    simpa [upL] using this
  · obtain ⟨hv, hkd, hx⟩ := r.inner h0
    have hxs := kid_of_mem hx
    simp only [] at hv hkd hxs
    have ek : vals = [] := List.length_eq_zero_iff.1 hkd
    subst ek
    obtain ⟨v, I, rfl⟩ := List.exists_cons_of_length_eq_add_one hv
    have hvb := hxs v (by simp)
    obtain ⟨v6, rfl⟩ := Int.eq_ofNat_of_zero_le hvb.1
    have en0 : nb ⟨v1, v2, v3, hi, keys, [], (v6 : Int) :: I⟩ ++ z = le 1 v1 ++ (le 8 v2 ++ (le 4 v3 ++ (le 2 keys.length ++ (txt hi ++ (le 4 v6 ++ (ensR ⟨v1, v2, v3, hi, keys, [], (v6 : Int) :: I⟩ 0 keys.length ++ z)))))) := by
      unfold nb hd
      rw [if_neg h0, ens_all]
      simp only [Int.toNat_natCast, List.append_assoc, List.getD_cons_zero]
    rw [en0]
    have b1 := numS_st 1 v1 (by omega) (by omega) (by omega) (le 8 v2 ++ (le 4 v3 ++ (le 2 keys.length ++ (txt hi ++ (le 4 v6 ++ (ensR ⟨v1, v2, v3, hi, keys, [], (v6 : Int) :: I⟩ 0 keys.length ++ z))))))
    have b2 := numS_st 8 v2 (by omega) (by omega) (by omega) (le 4 v3 ++ (le 2 keys.length ++ (txt hi ++ (le 4 v6 ++ (ensR ⟨v1, v2, v3, hi, keys, [], (v6 : Int) :: I⟩ 0 keys.length ++ z)))))
    have b3 := numS_st 4 v3 (by omega) (by omega) (by omega) (le 2 keys.length ++ (txt hi ++ (le 4 v6 ++ (ensR ⟨v1, v2, v3, hi, keys, [], (v6 : Int) :: I⟩ 0 keys.length ++ z))))
    have b4 := numS_st 2 keys.length (by omega) (by omega) (by omega) (txt hi ++ (le 4 v6 ++ (ensR ⟨v1, v2, v3, hi, keys, [], (v6 : Int) :: I⟩ 0 keys.length ++ z)))
    have b5 := textS_st hi 256 (by omega) (by omega) (le 4 v6 ++ (ensR ⟨v1, v2, v3, hi, keys, [], (v6 : Int) :: I⟩ 0 keys.length ++ z))
    have b6 := numS_st 4 v6 (by omega) (by omega) (by omega) (ensR ⟨v1, v2, v3, hi, keys, [], (v6 : Int) :: I⟩ 0 keys.length ++ z)
    rw [show ((1 : Nat) : Int) = 1 from rfl] at b1
    rw [show ((8 : Nat) : Int) = 8 from rfl] at b2
    rw [show ((4 : Nat) : Int) = 4 from rfl] at b3 b6
    rw [show ((2 : Nat) : Int) = 2 from rfl] at b4
    rw [show ((256 : Nat) : Int) = 256 from rfl] at b5
    unfold rnodeS
    rw [b1.1, b1.2, b2.1, b2.2, b3.1, b3.2, b4.1, b4.2, b5.1, b5.2, b6.1, b6.2, if_neg h0, Int.toNat_natCast]
    have := rinner_fwd keys.length ⟨v1, v2, v3, hi, [], [], [(v6 : Int)]⟩ keys I z h0 rfl rfl (by simpa using hv) hk (fun x hx => hxs x (by simp [hx]))
    simpa [upI] using this
/-- What the document's Decode takes is what Decode takes. -/
theorem rdec_yes (l : List Nat) (m : Nd) (r : Rt m) (h : pg m = l) : decF l = some m := by
  rw [← h]
  exact dec_pg m r (by have := nb_length r; have := r.size; omega)
theorem rdec_no (l : List Nat) (ho : octs l) (m : Nd) (s : RS) (hm : rnodeS (l.take 252, 0) = (m, s)) (h : s.2 ≠ 0 ∨ rightB m = false ∨ pg m ≠ l) : decF l = none := by
  cases hd : decF l with
  | none => rfl
  | some n =>
    obtain ⟨r, hl⟩ := dec_some l ho n hd
    have hnb : (nb n).length ≤ 252 := by have := nb_length r; have := r.size; omega
    have hp := pad_length hnb
    have ht : l.take 252 = nb n ++ List.replicate (252 - (nb n).length) 0 := by
      rw [hl]; unfold pg; rw [List.take_append_of_le_length (by omega), List.take_of_length_le (by omega)]; rfl
    rw [ht, rnode_fwd n r] at hm
    simp only [Prod.mk.injEq] at hm
    obtain ⟨rfl, rfl⟩ := hm
    rcases h with h | h | h
    · exact absurd rfl h
    · rw [(right_iff n).2 r] at h; cases h
    · exact absurd hl.symm h
end Go.Proofs.Ytaaedmacefiinaa
