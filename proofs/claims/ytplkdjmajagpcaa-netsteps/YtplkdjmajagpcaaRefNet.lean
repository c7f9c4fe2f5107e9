/- The document's net: what its calls do. -/
import Derived.Test.YtplkdjmajagpcaaNetB2
namespace Go.Proofs.Ytplkdjmajagpcaa
open Go.RowKit

/-- The document's net at block rb. -/
structure RN (w : World) (rb : Nat) (nodes : Int) (rv : Value) (R : List Say) : Prop where
  box : w.heap[rb]? = some (.cells #[.int .i64 nodes, rv] 97 (0, 0))
  row : Has w 3 rv R.length (R.flatMap rc)
  ne : rv.ownBlock ≠ some rb
  len : R.length ≤ 1024
def rnS (rb : Nat) (rv : Value) : Nat → Prop := fun k => k = rb ∨ rv.ownBlock = some k
theorem RN.lt {w : World} {rb : Nat} {nodes : Int} {rv : Value} {R : List Say} (h : RN w rb nodes rv R) {k : Nat} (hk : rnS rb rv k) : k < w.heap.size := by
  rcases hk with rfl | hk
  · exact lt_of_block h.box
  · exact h.row.lt hk
theorem RN.framed {S : Nat → Prop} {w w' : World} {rb : Nat} {nodes : Int} {rv : Value} {R : List Say} (h : RN w rb nodes rv R) (f : Fr S w w') (hn : ∀ k, rnS rb rv k → ¬ S k) : RN w' rb nodes rv R :=
  ⟨f.block_eq h.box (hn rb (.inl rfl)), h.row.fr f (fun k hk => hn k (.inr hk)), h.ne, h.len⟩
theorem RN.same {w w' : World} {rb : Nat} {nodes : Int} {rv : Value} {R : List Say} (h : RN w rb nodes rv R) (f : Fr (fun _ => False) w w') : RN w' rb nodes rv R := h.framed f (fun _ _ f => f)
theorem RN.grow {w W w1 : World} {rb : Nat} {nodes : Int} {v v2 : Value} {R R2 : List Say} {X : Prop} (h : RN w rb nodes v R) (F : Fr (fun _ => False) w W) (hfr : Fr (fun k => v.ownBlock = some k ∧ X) W w1)
    (hrow : Has w1 3 v2 R2.length (R2.flatMap rc)) (hat : v2.ownBlock = v.ownBlock ∨ v2.ownBlock = none ∨ ∃ g, v2.ownBlock = some g ∧ w.heap.size ≤ g) (hlen : R2.length ≤ 1024) :
    RN (w1.setCell ⟨rb, 1, none⟩ v2) rb nodes v2 R2 ∧ Fr (rnS rb v) w (w1.setCell ⟨rb, 1, none⟩ v2) ∧ (∀ k, rnS rb v2 k → rnS rb v k ∨ w.heap.size ≤ k) := by
  have hlt := lt_of_block h.box
  have F2 : Fr (fun k => v.ownBlock = some k) w w1 := (F.any (S := fun k => v.ownBlock = some k)).trans hfr (fun i _ e => e.1)
  have F3 : Fr (fun k => k = rb) w1 (w1.setCell ⟨rb, 1, none⟩ v2) := (Fr.refl (fun k => k = rb) w1).setCell (p := ⟨rb, 1, none⟩) (fun _ => rfl) v2
  have hne : v2.ownBlock ≠ some rb := by
    rcases hat with e | e | ⟨g, e, hg⟩
    · rw [e]; exact h.ne
    · rw [e]; simp
    · rw [e]; simp; omega
  refine ⟨⟨pair_setCell (F2.block_eq h.box h.ne) v2, hrow.fr F3 (fun k hk e => hne (by rw [hk, e])), hne, hlen⟩, (F2.mono (T := rnS rb v) (fun i _ e => .inr e)).setCell (fun _ => .inl rfl) v2, fun k hk => ?_⟩
  rcases hk with e | e
  · exact .inl (.inl e)
  · rcases hat with e2 | e2 | ⟨g, e2, hg⟩
    · exact .inl (.inr (by rw [← e2]; exact e))
    · rw [e2] at e; cases e
    · rw [e2] at e; simp at e; exact .inr (by omega)
theorem RN.cell0 {w : World} {rb : Nat} {nodes : Int} {v : Value} {R : List Say} (h : RN w rb nodes v R) : w.cell? ⟨rb, 0, none⟩ = some (.int .i64 nodes) := cell_at h.box 0
theorem RN.cell1 {w : World} {rb : Nat} {nodes : Int} {v : Value} {R : List Say} (h : RN w rb nodes v R) : w.cell? ⟨rb, 1, none⟩ = some v := cell_at h.box 1

theorem rnew_ok (n : Int) (h1 : 1 ≤ n) (h2 : n ≤ 7) (w : World) : Calls Try.prog 22 #[.int .i64 n] w fun e w' => e = .returned (.tuple #[.pointer (some ⟨w.heap.size, 0, none⟩), .int .i64 0]) ∧ w' = w.alloc (.cells #[.int .i64 n, .slice none 0 0] 97) := by
  go_enter Try.func22, Try.ntmps22
  go_wp2
  go_ret2
  exact ⟨rfl, rfl⟩
theorem rnew_bad (n : Int) (h : n < 1 ∨ 7 < n) (w : World) : Calls Try.prog 22 #[.int .i64 n] w fun e w' => e = .returned (.tuple #[.pointer none, .int .i64 1]) ∧ w' = w := by
  rcases h with h | h
  · go_enter Try.func22, Try.ntmps22
    go_wp2
    go_ret2
    exact ⟨rfl, rfl⟩
  · have h2 : 1 ≤ n := by omega
    go_enter Try.func22, Try.ntmps22
    go_wp2
    go_ret2
    exact ⟨rfl, rfl⟩
theorem RN.new (n : Int) (w : World) : RN (w.alloc (.cells #[.int .i64 n, .slice none 0 0] 97)) w.heap.size n (.slice none 0 0) [] :=
  ⟨heap_alloc_new w _, Has.nil _ _, (by simp [Value.ownBlock]), (by simp)⟩

section
variable (rb : Nat) (nodes : Int) (rv : Value) (R : List Say) (w : World)
theorem rsend_arg (h : RN w rb nodes rv R) (f t : Int) (x : Value) (hb : (f < 0 ∨ nodes ≤ f) ∨ (t < 0 ∨ nodes ≤ t)) : Calls Try.prog 30 #[.pointer (some ⟨rb, 0, none⟩), .int .i64 f, .int .i64 t, x] w fun e w' => e = .returned (.int .i64 1) ∧ w' = w := by
  have hc := h.cell0
  by_cases h1 : f < 0
  · clear hb
    go_enter Try.func30, Try.ntmps30
    go_wp2
    go_ret
    exact ⟨rfl, rfl⟩
  · have h1' : 0 ≤ f := by omega
    by_cases h2 : nodes ≤ f
    · clear hb h1
      go_enter Try.func30, Try.ntmps30
      go_wp2
      go_ret
      exact ⟨rfl, rfl⟩
    · have h2' : f < nodes := by omega
      have hd2 : decide (nodes ≤ f) = false := by simp; omega
      by_cases h3 : t < 0
      · clear hb h1 h2
        go_enter Try.func30, Try.ntmps30
        go_wp2
        go_ret
        exact ⟨rfl, rfl⟩
      · have h3' : 0 ≤ t := by omega
        have h4 : nodes ≤ t := by omega
        clear hb h1 h2 h3
        go_enter Try.func30, Try.ntmps30
        go_wp2
        go_ret
        exact ⟨rfl, rfl⟩
theorem rsend_long (h : RN w rb nodes rv R) (f t : Int) (h0 : 0 ≤ f) (h1 : f < nodes) (h2 : 0 ≤ t) (h3 : t < nodes) (a : Option Addr) (n c : Nat) (hl : 65535 < n) : Calls Try.prog 30 #[.pointer (some ⟨rb, 0, none⟩), .int .i64 f, .int .i64 t, .slice a n c] w fun e w' => e = .returned (.int .i64 2) ∧ w' = w := by
  have hc := h.cell0
  have hl' : (65535 : Int) < (n : Int) := by omega
  have hd1 : decide (nodes ≤ f) = false := by simp; omega
  have hd2 : decide (nodes ≤ t) = false := by simp; omega
  go_enter Try.func30, Try.ntmps30
  go_wp2
  go_ret
  exact ⟨rfl, rfl⟩
theorem rsend_full (h : RN w rb nodes rv R) (f t : Int) (h0 : 0 ≤ f) (h1 : f < nodes) (h2 : 0 ≤ t) (h3 : t < nodes) (a : Option Addr) (n c : Nat) (hl : n ≤ 65535) (hlen : R.length = 1024) : Calls Try.prog 30 #[.pointer (some ⟨rb, 0, none⟩), .int .i64 f, .int .i64 t, .slice a n c] w fun e w' => e = .returned (.int .i64 5) ∧ w' = w := by
  have hc := h.cell0
  have hc1 := h.cell1
  obtain ⟨ar, cr, rfl, _⟩ := h.row.slice
  rw [hlen] at hc1
  have hl' : (n : Int) ≤ 65535 := by omega
  have hd1 : decide (nodes ≤ f) = false := by simp; omega
  have hd2 : decide (nodes ≤ t) = false := by simp; omega
  clear hlen
  go_enter Try.func30, Try.ntmps30
  go_wp2
  go_ret
  exact ⟨rfl, rfl⟩

theorem say_news (w : World) (x : Say) : From ((w.alloc (.cells #[.int .i64 x.1, .int .i64 x.2.1, .string (strOf x.2.2)] 65)).drew) (some ⟨w.heap.size, 0, none⟩) (rc x) :=
  .inr ⟨_, _, rfl, range_block (w := (w.alloc _).drew) (heap_alloc_new w _) (fun j u hu => by rw [Nat.zero_add]; simpa [rc] using hu)⟩
set_option maxRecDepth 100000 in
set_option maxHeartbeats 1000000 in
theorem rsend_ok (h : RN w rb nodes rv R) (f t : Int) (h0 : 0 ≤ f) (h1 : f < nodes) (h2 : 0 ≤ t) (h3 : t < nodes) (a : Option Addr) (c : Nat) (l : List Nat) (hr : Row w a c l) (hl : l.length ≤ 65535) (hlen : R.length < 1024) : Calls Try.prog 30 #[.pointer (some ⟨rb, 0, none⟩), .int .i64 f, .int .i64 t, .slice a l.length c] w fun e w' => e = .returned (.int .i64 0) ∧
    ∃ rv', RN w' rb nodes rv' (R ++ [(f, t, l)]) ∧ Fr (rnS rb rv) w w' ∧ (∀ k, rnS rb rv' k → rnS rb rv k ∨ w.heap.size ≤ k) := by
  obtain ⟨iM, hiM, hzM, hsM, hbM⟩ := info_parts infoM
  have hc := h.cell0
  have hc1 := h.cell1
  have hl' : (l.length : Int) ≤ 65535 := by omega
  have hd1 : decide (nodes ≤ f) = false := by simp; omega
  have hd2 : decide (nodes ≤ t) = false := by simp; omega
  obtain ⟨n, hn⟩ : ∃ n, n = R.length := ⟨_, rfl⟩
  have HN : Hid (n = R.length) := hn
  have F : Fr (fun _ => False) w ((w.alloc (.cells #[.int .i64 f, .int .i64 t, .string (strOf l)] 65)).drew) := ((Fr.refl (fun _ => False) w).alloc _).drew
  have hrow := (h.same F).row
  have hbx := (h.same F).box
  have hne := h.ne
  have hc2 := (h.same F).cell1
  rw [← hn] at hrow hlen
  have hnl : (n : Int) < 1024 := by omega
  have cv := run_str (P := Try.prog) (src := 31) (dst := 9) Try.underlying31 Try.underlying5 Try.underlying9 (hr.same ((Fr.refl (fun _ => False) w).drew)) l.length rfl
  have cv2 := run_str (P := Try.prog) (src := 31) (dst := 9) Try.underlying31 Try.underlying5 Try.underlying9 hr l.length rfl
  obtain ⟨ar, cr, rfl, _⟩ := h.row.slice
  rw [← hn] at hc1 hrow hbx hne hc2
  have M1 : Hid (Try.prog.info? 65 = some iM) := hiM
  have M2 : Hid (iM.zero = some (.agg #[.int .i64 0, .int .i64 0, .string ⟨#[]⟩])) := hzM
  have M3 : Hid (iM.size = 3) := hsM
  have M4 : Hid (iM.bytes = 32) := hbM
  have HL : Hid (n < 1024) := hlen
  clear hn hiM hzM hsM hbM hlen
  go_enter Try.func30, Try.ntmps30
  go_wp2
  go_region_law
    ((refine step_append_has _ (by rfl) _ _ 95 95 65 65 (by rfl) iM _ 3 32 Try.underlying95 Try.underlying95 M1.out M2.out M3.out M4.out rfl (by omega) (.slice ar n cr) n (R.flatMap rc) (by rfl) hrow
        (some ⟨w.heap.size, 0, none⟩) 1 1 (rc (f, t, l)) (by rfl) (by rfl) (say_news w (f, t, l)) (rc_one _) (by have := HL.out; unfold maxLen; omega) (by have := HL.out; omega) ?_; intro a' c' w1 hown hfr hat; have hb3 := hfr.block_eq hbx (fun e => hne e.1); have q3 := cell_at hb3 1; have z3 := free_at hb3 1; simp only [List.getElem?_toArray, List.getElem?_cons_zero, List.getElem?_cons_succ] at q3))
  all_goals
    go_wp2
    go_ret
    obtain rfl := HN.out
    refine ⟨rfl, _, h.grow F hfr (R2 := R ++ [(f, t, l)]) (by simpa using hown) ?_ (by have := HL.out; simp; omega)⟩
    rcases hat with e | e
    · exact .inl e
    · exact .inr (.inr ⟨_, e, by simp⟩)
end
end Go.Proofs.Ytplkdjmajagpcaa
