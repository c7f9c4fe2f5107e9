
/- That page speaks. -/
import Derived.Test.YtaaedmacefiinaaPgDec
import Derived.Test.YtaaedmacefiinaaPgPlain
namespace Go.Proofs.Ytaaedmacefiinaa
open Go.RowKit Crcm

def n0 : Nd := ⟨0, 7, 2, ⟨#[98]⟩, [⟨#[97]⟩], [⟨#[120]⟩], []⟩
theorem nd_ext {a b : Nd} (h1 : a.lev = b.lev) (h2 : a.lsn = b.lsn) (h3 : a.rgt = b.rgt) (h4 : a.high = b.high) (h5 : a.keys = b.keys) (h6 : a.vals = b.vals) (h7 : a.kids = b.kids) : a = b := by
  cases a; cases b; simp_all
set_option maxRecDepth 100000 in
theorem n0_node : (nodeF (((opened (pg n0)).1, 0), false)).1 = n0 :=
  nd_ext (by decide +kernel) (by decide +kernel) (by decide +kernel) (by decide +kernel) (by decide +kernel) (by decide +kernel) (by decide +kernel)
set_option maxRecDepth 100000 in
theorem n0_dec : decF (pg n0) = some n0 := by
  unfold decF
  rw [n0_node, if_pos]
  exact ⟨by decide +kernel, by decide +kernel, by decide +kernel, by decide +kernel, by decide +kernel⟩
theorem n0_right : Rt n0 := (right_iff n0).1 (by decide +kernel)
theorem n0_size : sizeN n0 = 28 := by decide +kernel
theorem n1_page : epage ⟨1, 0, 0, ⟨#[]⟩, [], [], []⟩ = 60 := by decide +kernel

theorem strs_new (W : World) (b : Nat) (x : ByteArray) (hx : x.size ≤ maxLen) (h : W.heap[b]? = some (.cells #[.string x] 9 (0, 0))) : Strs W (some ⟨b, 0, none⟩) 1 [x] := by
  refine ⟨by simp, by omega, (fun s hs => by rw [List.mem_singleton.1 hs]; exact hx), .inr ⟨b, 0, rfl, lt_of_block h, fun i hi => ?_⟩⟩
  have : i = 0 := by simpa using hi
  subst this
  simp [World.cell?, h]
def p0 (w : World) : Pt := ⟨some ⟨w.heap.size, 0, none⟩, 1, some ⟨w.heap.size + 1, 0, none⟩, 1, none, 0⟩
def W3 (w : World) : World := ((w.alloc (.cells #[.string ⟨#[97]⟩] 9)).alloc (.cells #[.string ⟨#[120]⟩] 9)).alloc (.cells #[.int .i64 0, .int .i64 7, .int .i64 2, .string ⟨#[98]⟩, .slice (some ⟨w.heap.size, 0, none⟩) 1 1, .slice (some ⟨w.heap.size + 1, 0, none⟩) 1 1, .slice none 0 0] 25)
theorem W3_fr (w : World) : Fr (fun _ => False) w (W3 w) := (((Fr.refl _ w).alloc _).alloc _).alloc _
theorem W3_box (w : World) : (W3 w).heap[w.heap.size + 1 + 1]? = some (.cells #[.int .i64 0, .int .i64 7, .int .i64 2, .string ⟨#[98]⟩, .slice (some ⟨w.heap.size, 0, none⟩) 1 1, .slice (some ⟨w.heap.size + 1, 0, none⟩) 1 1, .slice none 0 0] 25 (0, 0)) := by
  have := heap_alloc_new ((w.alloc (.cells #[.string ⟨#[97]⟩] 9)).alloc (.cells #[.string ⟨#[120]⟩] 9)) (.cells #[.int .i64 0, .int .i64 7, .int .i64 2, .string ⟨#[98]⟩, .slice (some ⟨w.heap.size, 0, none⟩) 1 1, .slice (some ⟨w.heap.size + 1, 0, none⟩) 1 1, .slice none 0 0] 25)
  simpa [W3] using this
theorem W3_nod (w : World) : Nod (W3 w) n0 (p0 w) := by
  have h0 : (W3 w).heap[w.heap.size]? = some (.cells #[.string ⟨#[97]⟩] 9 (0, 0)) := by
    unfold W3
    rw [Below.heap_alloc _ _ _ (by simp; omega), Below.heap_alloc _ _ _ (by simp)]; exact heap_alloc_new w _
  have h1 : (W3 w).heap[w.heap.size + 1]? = some (.cells #[.string ⟨#[120]⟩] 9 (0, 0)) := by
    unfold W3
    rw [Below.heap_alloc _ _ _ (by simp)]
    have := heap_alloc_new (w.alloc (.cells #[.string ⟨#[97]⟩] 9)) (.cells #[.string ⟨#[120]⟩] 9)
    simpa using this
  exact ⟨strs_new _ _ _ (by decide) h0, strs_new _ _ _ (by decide) h1, ⟨Nat.le_refl _, by simp [p0], .inl rfl⟩, by decide, (fun s hs => by rw [List.mem_singleton.1 hs]; decide), (fun s hs => by rw [List.mem_singleton.1 hs]; decide), by decide, by decide, by decide⟩

set_option maxRecDepth 100000 in
set_option maxHeartbeats 2000000 in
theorem pspeaks_any (w : World) : Calls Try.prog 14 #[] w fun e w' => e = .returned (.bool true) ∧ Fr (fun _ => False) w w' := by
  have f3 := W3_fr w
  have nd := W3_nod w
  have hb := W3_box w
  obtain ⟨V, hV⟩ : ∃ V, V = W3 w := ⟨_, rfl⟩
  have HV : Hid (((w.alloc (.cells #[.string ⟨#[97]⟩] 9)).alloc (.cells #[.string ⟨#[120]⟩] 9)).alloc (.cells #[.int .i64 0, .int .i64 7, .int .i64 2, .string ⟨#[98]⟩, .slice (some ⟨w.heap.size, 0, none⟩) 1 1, .slice (some ⟨w.heap.size + 1, 0, none⟩) 1 1, .slice none 0 0] 25) = V) := hV.symm
  rw [← hV] at f3 nd hb
  clear hV
  have HBX : Hid (∀ W, Fr (fun _ => False) V W → W.heap[w.heap.size + 1 + 1]? = some (.cells #[.int .i64 0, .int .i64 7, .int .i64 2, .string ⟨#[98]⟩, .slice (some ⟨w.heap.size, 0, none⟩) 1 1, .slice (some ⟨w.heap.size + 1, 0, none⟩) 1 1, .slice none 0 0] 25 (0, 0))) := fun W f => by rw [f.block _ (lt_of_block hb) (fun f => f)]; exact hb
  go_enter Try.func14, Try.ntmps14
  go_wp2_with fail
  rw [HV.out]
  refine (encode_yes n0 (p0 w) V nd n0_right).mono ?_
  rintro e w1 ⟨g, rfl, A1, hg, f1⟩
  have hro : Row w1 (some ⟨g, 0, none⟩) 256 (pg n0) := by
    have := A1.row (pg_octs n0) 256 (by omega) 256 (by omega) (by omega)
    rwa [List.take_of_length_le (by rw [A1.length]; omega)] at this
  have hdc := decode_256 (some ⟨g, 0, none⟩) 256 (pg n0) A1.length w1 hro
  unfold DecOut at hdc
  rw [n0_dec] at hdc
  simp only [Option.getD_some, Option.isSome_some, if_true] at hdc
  go_wp2_with fail
  refine hdc.mono ?_
  clear hdc
  rintro e w2 ⟨p2, rfl, nd2, f2⟩
  have fb := Fr.box w2 (.cells #[.int .i64 n0.lev, .int .i64 n0.lsn, .int .i64 n0.rgt, .string n0.high, .slice p2.k n0.keys.length p2.kc, .slice p2.v n0.vals.length p2.vc, .slice p2.i n0.kids.length p2.ic] 25)
  have f4 := (f1.seq' f2).seq' fb
  obtain ⟨⟨k0, k1, k2, k3, k4, k5, k6⟩, _⟩ := node_cells (HBX.out _ f4)
  go_wp2_with fail
  refine (plain_same n0 p2 (p0 w) _ (nd2.same fb) (nd.same f4)).mono ?_
  rintro e w5 ⟨rfl, f5⟩
  clear k0 k1 k2 k3 k4 k5 k6
  obtain ⟨⟨k0, k1, k2, k3, k4, k5, k6⟩, _⟩ := node_cells (HBX.out _ (f4.seq' f5))
  have hsz := size_any n0 (p0 w) w5 (nd.same (f4.seq' f5))
  rw [n0_size, show wrap64 ((28 : Nat) : Int) = 28 from wrap_id (by omega)] at hsz
  go_wp2_with fail
  refine hsz.mono ?_
  clear hsz
  rintro e w6 ⟨rfl, f6⟩
  have hck := check_any ⟨1, 0, 0, ⟨#[]⟩, [], [], []⟩ zp w6 ⟨⟨Nat.le_refl _, by simp [zp], (fun s hs => by cases hs), .inl rfl⟩, ⟨Nat.le_refl _, by simp [zp], (fun s hs => by cases hs), .inl rfl⟩, ⟨Nat.le_refl _, by simp [zp], .inl rfl⟩, by decide, (fun s hs => by cases hs), (fun s hs => by cases hs), by simp, by simp, by simp⟩
  rw [n1_page] at hck
  go_wp2_with fail
  refine hck.mono ?_
  clear hck
  rintro e w7 ⟨rfl, f7⟩
  go_wp2
  go_ret
  exact ⟨rfl, f3.seq' (((f4.seq' f5).seq' f6).seq' f7)⟩
end Go.Proofs.Ytaaedmacefiinaa
