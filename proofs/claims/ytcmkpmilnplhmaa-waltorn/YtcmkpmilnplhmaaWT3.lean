
/- PgNode, PgCheck, PgCheck2, PgCheck3, PgRef. -/
import Derived.Test.YtcmkpmilnplhmaaWT2
/- Nodes: what they hold, how they lie in memory, which are right, and how large they are. -/
namespace Go.Proofs.Ytcmkpmilnplhmaa
open Go.RowKit

/-- A node's parts. -/
structure Nd where
  lev : Int
  lsn : Int
  rgt : Int
  high : ByteArray
  keys : List ByteArray
  vals : List ByteArray
  kids : List Int
/-- Where a node's lists lie. -/
structure Pt where
  k : Option Addr
  kc : Nat
  v : Option Addr
  vc : Nat
  i : Option Addr
  ic : Nat
/-- A slice of numbers as a walk sees it. -/
structure Ints (w : World) (a : Option Addr) (cap : Nat) (l : List Int) : Prop where
  le : l.length ≤ cap
  max : cap ≤ 9223372036854775807
  at_ : l = [] ∨ ∃ b off, a = some ⟨b, off, none⟩ ∧ b < w.heap.size ∧ ∀ i, i < l.length → w.cell? ⟨b, off + i, none⟩ = some (.int .i64 (l.getD i 0))
theorem Ints.same {w w' : World} {a : Option Addr} {cap : Nat} {l : List Int} (h : Ints w a cap l) (f : Fr (fun _ => False) w w') : Ints w' a cap l := by
  refine ⟨h.le, h.max, ?_⟩
  rcases h.at_ with h0 | ⟨b, off, ha, hb, hc⟩
  · exact .inl h0
  · refine .inr ⟨b, off, ha, Nat.lt_of_lt_of_le hb f.size, fun i hi => ?_⟩
    rw [f.cell (p := ⟨b, off + i, none⟩) hb (fun f => f)]
    exact hc i hi
/-- A node in memory. -/
structure Nod (w : World) (n : Nd) (p : Pt) : Prop where
  keys : Strs w p.k p.kc n.keys
  vals : Strs w p.v p.vc n.vals
  kids : Ints w p.i p.ic n.kids
  high : n.high.size ≤ 140737488351232
  ksz : ∀ s ∈ n.keys, s.size ≤ 140737488351232
  vsz : ∀ s ∈ n.vals, s.size ≤ 140737488351232
  klen : n.keys.length ≤ 140737488351232
  vlen : n.vals.length ≤ 140737488351232
  ilen : n.kids.length ≤ 140737488351232
theorem Nod.same {w w' : World} {n : Nd} {p : Pt} (h : Nod w n p) (f : Fr (fun _ => False) w w') : Nod w' n p :=
  ⟨h.keys.same f, h.vals.same f, h.kids.same f, h.high, h.ksz, h.vsz, h.klen, h.vlen, h.ilen⟩

/-- How many bytes texts need. -/
def tsz (l : List ByteArray) : Nat := (l.map fun (s : ByteArray) => s.size + 2).sum
theorem tsz_snoc (l : List ByteArray) (k : Nat) (h : k < l.length) : tsz (l.take (k + 1)) = tsz (l.take k) + ((l.getD k ByteArray.empty).size + 2) := by
  rw [List.take_succ_eq_append_getElem h, List.getD_eq_getElem?_getD, List.getElem?_eq_getElem h]
  simp only [tsz, List.map_append, List.sum_append, List.map_cons, List.map_nil, List.sum_cons, List.sum_nil, Option.getD_some]; omega
theorem tsz_le (l : List ByteArray) (m : Nat) (h : ∀ s ∈ l, s.size ≤ m) : tsz l ≤ l.length * (m + 2) := by
  induction l with
  | nil => simp [tsz]
  | cons x r ih =>
    have h1 := h x (by simp)
    have h2 := ih (fun s hs => h s (by simp [hs]))
    have e : tsz (x :: r) = (x.size + 2) + tsz r := by simp [tsz]
    rw [e, List.length_cons, Nat.succ_mul]; omega
def sizeN (n : Nd) : Nat := 21 + n.high.size + tsz n.keys + (if n.lev = 0 then tsz n.vals else 4 * n.kids.length)
def wthB (x a b : Int) : Bool := decide (a ≤ x ∧ x ≤ b)
def headB (n : Nd) : Bool := wthB n.lev 0 20 && (wthB n.lsn 0 1099511627776 && (wthB n.rgt 0 4096 && decide (n.high.size ≤ 16)))
/-- A key in its place. -/
abbrev kok (hi : ByteArray) (l : List ByteArray) (i : Nat) : Prop :=
  (1 ≤ (l.getD i ByteArray.empty).size ∧ (l.getD i ByteArray.empty).size ≤ 16) ∧ (0 < i → cpl (bsOf (l.getD (i - 1) ByteArray.empty)) (bsOf (l.getD i ByteArray.empty)) < 0) ∧ (hi.size ≠ 0 → cpl (bsOf (l.getD i ByteArray.empty)) (bsOf hi) < 0)
def keysB (n : Nd) : Bool := decide (∀ i, i < n.keys.length → kok n.high n.keys i)
def valsB (l : List ByteArray) : Bool := decide (∀ i, i < l.length → (l.getD i ByteArray.empty).size ≤ 32)
def kidsB (l : List Int) : Bool := decide (∀ i, i < l.length → wthB (l.getD i 0) 1 4096 = true)
def entB (n : Nd) : Bool := if n.lev = 0 then (n.vals.length == n.keys.length) && ((n.kids.length == 0) && valsB n.vals) else (n.kids.length == n.keys.length + 1) && ((n.vals.length == 0) && kidsB n.kids)
/-- Whether a node is right. -/
def rightB (n : Nd) : Bool := headB n && (keysB n && (entB n && decide (sizeN n ≤ 256)))
theorem keysB_no {n : Nd} (i : Nat) (hi : i < n.keys.length) (h : ¬ kok n.high n.keys i) : keysB n = false := by
  unfold keysB; rw [decide_eq_false_iff_not]; exact fun f => h (f i hi)
theorem keysB_yes {n : Nd} (h : ∀ i, i < n.keys.length → kok n.high n.keys i) : keysB n = true := by unfold keysB; rw [decide_eq_true_eq]; exact h
theorem keysB_of {n : Nd} (h : keysB n = true) : ∀ i, i < n.keys.length → kok n.high n.keys i := by unfold keysB at h; rwa [decide_eq_true_eq] at h
theorem valsB_no {l : List ByteArray} (i : Nat) (hi : i < l.length) (h : ¬ (l.getD i ByteArray.empty).size ≤ 32) : valsB l = false := by
  unfold valsB; rw [decide_eq_false_iff_not]; exact fun f => h (f i hi)
theorem valsB_yes {l : List ByteArray} (h : ∀ i, i < l.length → (l.getD i ByteArray.empty).size ≤ 32) : valsB l = true := by unfold valsB; rw [decide_eq_true_eq]; exact h
theorem valsB_of {l : List ByteArray} (h : valsB l = true) : ∀ i, i < l.length → (l.getD i ByteArray.empty).size ≤ 32 := by unfold valsB at h; rwa [decide_eq_true_eq] at h
theorem kidsB_no {l : List Int} (i : Nat) (hi : i < l.length) (h : ¬ wthB (l.getD i 0) 1 4096 = true) : kidsB l = false := by
  unfold kidsB; rw [decide_eq_false_iff_not]; exact fun f => h (f i hi)
theorem kidsB_yes {l : List Int} (h : ∀ i, i < l.length → wthB (l.getD i 0) 1 4096 = true) : kidsB l = true := by unfold kidsB; rw [decide_eq_true_eq]; exact h
theorem kidsB_of {l : List Int} (h : kidsB l = true) : ∀ i, i < l.length → wthB (l.getD i 0) 1 4096 = true := by unfold kidsB at h; rwa [decide_eq_true_eq] at h
end Go.Proofs.Ytcmkpmilnplhmaa

/- What page.Check and page.Size tell. -/
namespace Go.Proofs.Ytcmkpmilnplhmaa
open Go.RowKit

theorem ret_bool {x y : Bool} (h : x = y) : Ending.returned (.bool x) = .returned (.bool y) := by rw [h]
theorem Fr.seq' {a b c : World} (h : Fr (fun _ => False) a b) (k : Fr (fun _ => False) b c) : Fr (fun _ => False) a c := h.trans k (fun _ _ f => f)
theorem Fr.box (w : World) (o : Obj) : Fr (fun _ => False) w (w.alloc o) := (Fr.refl _ w).alloc o

set_option maxRecDepth 100000 in
set_option maxHeartbeats 400000 in
theorem within_any (x a b : Int) (w : World) : Calls Try.prog 66 #[.int .i64 x, .int .i64 a, .int .i64 b] w fun e w' => e = .returned (.bool (wthB x a b)) ∧ w' = w := by
  by_cases h1 : a ≤ x
  · by_cases h2 : x ≤ b
    · rw [show wthB x a b = true by simp [wthB, h1, h2]]
      go_enter Try.func66, Try.ntmps66
      go_wp2
      go_ret
      exact ⟨rfl, rfl⟩
    · rw [show wthB x a b = false by simp [wthB, h2]]
      go_enter Try.func66, Try.ntmps66
      go_wp2
      go_ret
      exact ⟨rfl, rfl⟩
  · rw [show wthB x a b = false by simp [wthB, h1]]
    have h2 : decide (a ≤ x) = false := by simpa using h1
    go_enter Try.func66, Try.ntmps66
    go_wp2
    go_ret
    exact ⟨rfl, rfl⟩

set_option maxRecDepth 100000 in
set_option maxHeartbeats 400000 in
theorem isLeaf_any (n : Nd) (p : Pt) (w : World) : Calls Try.prog 61 #[(.agg #[.int .i64 n.lev, .int .i64 n.lsn, .int .i64 n.rgt, .string n.high, .slice p.k n.keys.length p.kc, .slice p.v n.vals.length p.vc, .slice p.i n.kids.length p.ic])] w fun e w' => e = .returned (.bool (n.lev == 0)) ∧ w' = w.alloc (.cells #[.int .i64 n.lev, .int .i64 n.lsn, .int .i64 n.rgt, .string n.high, .slice p.k n.keys.length p.kc, .slice p.v n.vals.length p.vc, .slice p.i n.kids.length p.ic] 83) := by
  go_enter Try.func61, Try.ntmps61
  go_wp2
  go_ret
  exact ⟨rfl, rfl⟩

set_option maxRecDepth 100000 in
set_option maxHeartbeats 1000000 in
theorem head_any (n : Nd) (p : Pt) (w : World) : Calls Try.prog 62 #[(.agg #[.int .i64 n.lev, .int .i64 n.lsn, .int .i64 n.rgt, .string n.high, .slice p.k n.keys.length p.kc, .slice p.v n.vals.length p.vc, .slice p.i n.kids.length p.ic])] w fun e w' => e = .returned (.bool (headB n)) ∧ w' = w.alloc (.cells #[.int .i64 n.lev, .int .i64 n.lsn, .int .i64 n.rgt, .string n.high, .slice p.k n.keys.length p.kc, .slice p.v n.vals.length p.vc, .slice p.i n.kids.length p.ic] 83) := by
  obtain ⟨b1, h1⟩ : ∃ b, wthB n.lev 0 20 = b := ⟨_, rfl⟩
  obtain ⟨b2, h2⟩ : ∃ b, wthB n.lsn 0 1099511627776 = b := ⟨_, rfl⟩
  obtain ⟨b3, h3⟩ : ∃ b, wthB n.rgt 0 4096 = b := ⟨_, rfl⟩
  obtain ⟨b4, h4⟩ : ∃ b, decide (n.high.size ≤ 16) = b := ⟨_, rfl⟩
  have HH : Hid (headB n = (b1 && (b2 && (b3 && b4)))) := by show headB n = _; unfold headB; rw [h1, h2, h3, h4]
  rw [HH.out]
  cases b1
  · clear h2 h3 h4 HH
    go_enter Try.func62, Try.ntmps62
    go_wp2_with (go_at_call 66; refine (within_any _ _ _ _).mono ?_; rintro e w' ⟨rfl, rfl⟩)
    go_ret
    exact ⟨rfl, rfl⟩
  · cases b2
    · clear h3 h4 HH
      go_enter Try.func62, Try.ntmps62
      go_wp2_with (go_at_call 66; refine (within_any _ _ _ _).mono ?_; rintro e w' ⟨rfl, rfl⟩)
      go_ret
      exact ⟨rfl, rfl⟩
    · cases b3
      · clear h4 HH
        go_enter Try.func62, Try.ntmps62
        go_wp2_with (go_at_call 66; refine (within_any _ _ _ _).mono ?_; rintro e w' ⟨rfl, rfl⟩)
        go_ret
        exact ⟨rfl, rfl⟩
      · clear HH
        by_cases h0 : n.high.size = 0
        · have e4 : b4 = true := by rw [← h4]; simp [h0]
          subst e4
          have he := bs_nil h0
          clear h4 h0
          go_enter Try.func62, Try.ntmps62
          go_wp2_with (go_at_call 66; refine (within_any _ _ _ _).mono ?_; rintro e w' ⟨rfl, rfl⟩)
          go_ret
          exact ⟨rfl, rfl⟩
        · have he := bs_not_nil h0
          have hk : ((ekey n.high.size : Int) == 0) = b4 := by
            rw [← h4]
            by_cases h5 : n.high.size ≤ 16
            · rw [ekey_ok h0 h5]; simp [h5]
            · rw [ekey_no (.inr (by omega))]; simp [h5]
          clear h4 h0
          go_enter Try.func62, Try.ntmps62
          go_wp2_with (first | (go_at_call 66; refine (within_any _ _ _ _).mono ?_; rintro e w' ⟨rfl, rfl⟩) | (go_at_call 45; refine (kcheck_any _ _).mono ?_; rintro e w' ⟨rfl, rfl⟩))
          go_ret
          exact ⟨rfl, rfl⟩

theorem wrap_nil : wrap64 ((tsz [] : Nat) : Int) = 0 := by decide +kernel
theorem wrap_add (a b : Int) : wrap64 (wrap64 a + b) = wrap64 (a + b) := by unfold wrap64; omega

set_option maxRecDepth 100000 in
set_option maxHeartbeats 1000000 in
theorem texts_any (a : Option Addr) (n cap : Nat) (l : List ByteArray) (hn : n = l.length) (hz : ∀ s ∈ l, s.size ≤ 140737488351232) (w : World) (hr : Strs w a cap l) :
    Calls Try.prog 71 #[.slice a n cap] w fun e w' => e = .returned (.int .i64 (wrap64 (tsz l : Nat))) ∧ w' = w := by
  subst hn
  have hle := hr.le
  have hmx := hr.max
  rcases hr.at_ with h0 | ⟨b, off, rfl, hb, hc⟩
  · subst h0
    go_enter Try.func71, Try.ntmps71
    go_wp2
    refine wp_loop_rounds 1 ?_
    rw [rounds_succ]
    go_wp2
    go_ret
    exact ⟨ret_int wrap_nil.symm, rfl⟩
  · go_enter Try.func71, Try.ntmps71
    go_wp2
    go_loop [3, 5, 8] (fun t _ i => ∃ k : Nat, k ≤ l.length ∧ i = .int .i64 k ∧ t = .int .i64 (wrap64 (tsz (l.take k) : Nat))) (fun _ _ i => l.length - (intOf i).toNat)
    case atStart => exact ⟨0, by omega, rfl, val_int wrap_nil.symm⟩
    case round =>
      obtain ⟨k, hk, rfl, rfl⟩ := hrel
      by_cases hlt : k < l.length
      · have hcell := hc k hlt
        have hsz := hz _ (strs_get hlt)
        have HS : Hid (tsz (l.take (k + 1)) = tsz (l.take k) + ((l.getD k ByteArray.empty).size + 2)) := tsz_snoc l k hlt
        obtain ⟨s, hs⟩ : ∃ s, s = l.getD k ByteArray.empty := ⟨_, rfl⟩
        rw [← hs] at hcell hsz HS
        obtain ⟨t, ht⟩ : ∃ t, t = tsz (l.take k) := ⟨_, rfl⟩
        rw [← ht] at HS ⊢
        clear hs ht hc
        go_wp2
        go_round
        case rel => exact ⟨k + 1, by omega, by go_num, by rw [HS.out]; exact val_int (by rw [wrap_add]; congr 1; omega)⟩
        case measure => simp [intOf]; omega
      · have e : l.take k = l := List.take_of_length_le (by omega)
        rw [e]
        go_wp2
        go_ret
        exact ⟨rfl, rfl⟩

set_option maxRecDepth 100000 in
set_option maxHeartbeats 400000 in
theorem text_sz (s : ByteArray) (h : s.size ≤ 140737488351232) (w : World) : Calls Try.prog 70 #[.string s] w fun e w' => e = .returned (.int .i64 (2 + (s.size : Int))) ∧ w' = w := by
  go_enter Try.func70, Try.ntmps70
  go_wp2
  go_ret
  exact ⟨rfl, rfl⟩

set_option maxRecDepth 100000 in
set_option maxHeartbeats 1000000 in
theorem size_any (n : Nd) (p : Pt) (w : World) (h : Nod w n p) : Calls Try.prog 65 #[(.agg #[.int .i64 n.lev, .int .i64 n.lsn, .int .i64 n.rgt, .string n.high, .slice p.k n.keys.length p.kc, .slice p.v n.vals.length p.vc, .slice p.i n.kids.length p.ic])] w fun e w' => e = .returned (.int .i64 (wrap64 (sizeN n : Nat))) ∧ Fr (fun _ => False) w w' := by
  have hh := h.high
  have hb := h.same (Fr.box w (.cells #[.int .i64 n.lev, .int .i64 n.lsn, .int .i64 n.rgt, .string n.high, .slice p.k n.keys.length p.kc, .slice p.v n.vals.length p.vc, .slice p.i n.kids.length p.ic] 83))
  have hil := h.ilen
  by_cases h0 : n.lev = 0
  · have e0 : (n.lev == 0) = true := by simp [h0]
    have HS : Hid (sizeN n = 21 + n.high.size + tsz n.keys + tsz n.vals) := by show sizeN n = _; unfold sizeN; rw [if_pos h0]
    clear h0
    go_enter Try.func65, Try.ntmps65
    go_wp2
    go_quiet ((first | (go_at_call 70; exact Calls.quiet_of_same (text_sz _ hh _)) | (go_at_call 71; exact Calls.quiet_of_same (texts_any _ _ _ n.keys rfl hb.ksz _ (hb.keys.same ((Fr.refl _ _).drewN _))))))
    go_wp2_with fail
    refine (isLeaf_any n p _).mono ?_
    rintro e w1 ⟨rfl, rfl⟩
    have f1 := ((Fr.box w (.cells #[.int .i64 n.lev, .int .i64 n.lsn, .int .i64 n.rgt, .string n.high, .slice p.k n.keys.length p.kc, .slice p.v n.vals.length p.vc, .slice p.i n.kids.length p.ic] 83)).drewN nq).alloc (.cells #[.int .i64 n.lev, .int .i64 n.lsn, .int .i64 n.rgt, .string n.high, .slice p.k n.keys.length p.kc, .slice p.v n.vals.length p.vc, .slice p.i n.kids.length p.ic] 83)
    go_wp2_with fail
    refine (texts_any _ _ _ n.vals rfl h.vsz _ (h.vals.same f1)).mono ?_
    rintro e w2 ⟨rfl, rfl⟩
    go_wp2
    go_ret
    exact ⟨ret_int (by rw [HS.out]; unfold wrap64; omega), f1⟩
  · have e0 : (n.lev == 0) = false := by simpa using h0
    have HS : Hid (sizeN n = 21 + n.high.size + tsz n.keys + 4 * n.kids.length) := by show sizeN n = _; unfold sizeN; rw [if_neg h0]
    clear h0
    go_enter Try.func65, Try.ntmps65
    go_wp2
    go_quiet ((first | (go_at_call 70; exact Calls.quiet_of_same (text_sz _ hh _)) | (go_at_call 71; exact Calls.quiet_of_same (texts_any _ _ _ n.keys rfl hb.ksz _ (hb.keys.same ((Fr.refl _ _).drewN _))))))
    go_wp2_with fail
    refine (isLeaf_any n p _).mono ?_
    rintro e w1 ⟨rfl, rfl⟩
    have f1 := ((Fr.box w (.cells #[.int .i64 n.lev, .int .i64 n.lsn, .int .i64 n.rgt, .string n.high, .slice p.k n.keys.length p.kc, .slice p.v n.vals.length p.vc, .slice p.i n.kids.length p.ic] 83)).drewN nq).alloc (.cells #[.int .i64 n.lev, .int .i64 n.lsn, .int .i64 n.rgt, .string n.high, .slice p.k n.keys.length p.kc, .slice p.v n.vals.length p.vc, .slice p.i n.kids.length p.ic] 83)
    go_wp2
    go_ret
    exact ⟨ret_int (by rw [HS.out]; unfold wrap64; omega), f1⟩

set_option maxRecDepth 100000 in
set_option maxHeartbeats 1000000 in
theorem vals_any (a : Option Addr) (n cap : Nat) (l : List ByteArray) (hn : n = l.length) (w : World) (hr : Strs w a cap l) :
    Calls Try.prog 68 #[.slice a n cap] w fun e w' => e = .returned (.bool (valsB l)) ∧ w' = w := by
  subst hn
  have hle := hr.le
  have hmx := hr.max
  rcases hr.at_ with h0 | ⟨b, off, rfl, hb, hc⟩
  · subst h0
    go_enter Try.func68, Try.ntmps68
    go_wp2
    refine wp_loop_rounds 1 ?_
    rw [rounds_succ]
    go_wp2
    go_ret
    exact ⟨ret_bool (valsB_yes (fun i hi => by simp at hi)).symm, rfl⟩
  · go_enter Try.func68, Try.ntmps68
    go_wp2
    go_loop [4, 7] (fun _ i => ∃ k : Nat, k ≤ l.length ∧ i = .int .i64 k ∧ Hid (∀ x, x < k → (l.getD x ByteArray.empty).size ≤ 32)) (fun _ i => l.length - (intOf i).toNat)
    case atStart => exact ⟨0, by omega, rfl, fun x hx => by omega⟩
    case round =>
      obtain ⟨k, hk, rfl, HE⟩ := hrel
      by_cases hlt : k < l.length
      · have hcell := hc k hlt
        obtain ⟨s, hs⟩ : ∃ s, s = l.getD k ByteArray.empty := ⟨_, rfl⟩
        rw [← hs] at hcell
        have HS : Hid (s = l.getD k ByteArray.empty) := hs
        clear hs hc
        by_cases h1 : s.size ≤ 32
        · have e1 : evalu s.size = 0 := if_neg (by omega)
          go_wp2_with fail
          refine (kvalue_any _ _).mono ?_
          rw [e1]
          rintro e w1 ⟨rfl, rfl⟩
          go_wp2
          go_round
          case rel =>
            refine ⟨k + 1, by omega, by go_num, fun x hx => ?_⟩
            rcases Nat.lt_or_ge x k with h | h
            · exact HE.out x h
            · have e : x = k := by omega
              rw [e, ← HS.out]; omega
          case measure => simp [intOf]; omega
        · have e1 : evalu s.size = 51 := if_pos (by omega)
          go_wp2_with fail
          refine (kvalue_any _ _).mono ?_
          rw [e1]
          rintro e w1 ⟨rfl, rfl⟩
          go_wp2
          go_ret
          exact ⟨ret_bool (valsB_no k hlt (by rw [← HS.out]; exact h1)).symm, rfl⟩
      · go_wp2
        go_ret
        exact ⟨ret_bool (valsB_yes (fun x hx => HE.out x (by omega))).symm, rfl⟩

set_option maxRecDepth 100000 in
set_option maxHeartbeats 1000000 in
theorem kids_any (a : Option Addr) (n cap : Nat) (l : List Int) (hn : n = l.length) (w : World) (hr : Ints w a cap l) :
    Calls Try.prog 69 #[.slice a n cap] w fun e w' => e = .returned (.bool (kidsB l)) ∧ w' = w := by
  subst hn
  have hle := hr.le
  have hmx := hr.max
  rcases hr.at_ with h0 | ⟨b, off, rfl, hb, hc⟩
  · subst h0
    go_enter Try.func69, Try.ntmps69
    go_wp2
    refine wp_loop_rounds 1 ?_
    rw [rounds_succ]
    go_wp2
    go_ret
    exact ⟨ret_bool (kidsB_yes (fun i hi => by simp at hi)).symm, rfl⟩
  · go_enter Try.func69, Try.ntmps69
    go_wp2
    go_loop [4, 7] (fun _ i => ∃ k : Nat, k ≤ l.length ∧ i = .int .i64 k ∧ Hid (∀ x, x < k → wthB (l.getD x 0) 1 4096 = true)) (fun _ i => l.length - (intOf i).toNat)
    case atStart => exact ⟨0, by omega, rfl, fun x hx => by omega⟩
    case round =>
      obtain ⟨k, hk, rfl, HE⟩ := hrel
      by_cases hlt : k < l.length
      · have hcell := hc k hlt
        obtain ⟨s, hs⟩ : ∃ s, s = l.getD k 0 := ⟨_, rfl⟩
        rw [← hs] at hcell
        have HS : Hid (s = l.getD k 0) := hs
        clear hs hc
        by_cases h1 : wthB s 1 4096 = true
        · have H1 : Hid (wthB s 1 4096 = true) := h1
          go_wp2_with fail
          refine (within_any _ _ _ _).mono ?_
          rw [H1.out]
          rintro e w1 ⟨rfl, rfl⟩
          go_wp2
          go_round
          case rel =>
            refine ⟨k + 1, by omega, by go_num, fun x hx => ?_⟩
            rcases Nat.lt_or_ge x k with h | h
            · exact HE.out x h
            · have e : x = k := by omega
              rw [e, ← HS.out]; exact H1.out
          case measure => simp [intOf]; omega
        · have H1 : Hid (wthB s 1 4096 = false) := by show _ = _; simpa using h1
          clear h1
          go_wp2_with fail
          refine (within_any _ _ _ _).mono ?_
          rw [H1.out]
          rintro e w1 ⟨rfl, rfl⟩
          go_wp2
          go_ret
          exact ⟨ret_bool (kidsB_no k hlt (by rw [← HS.out, H1.out]; simp)).symm, rfl⟩
      · go_wp2
        go_ret
        exact ⟨ret_bool (kidsB_yes (fun x hx => HE.out x (by omega))).symm, rfl⟩
end Go.Proofs.Ytcmkpmilnplhmaa

/- What page.keysAreRight, entriesAreRight and Check tell. -/
namespace Go.Proofs.Ytcmkpmilnplhmaa
open Go.RowKit

/-- The cells of a boxed node behind what leaves them. -/
theorem box_cells {w' : World} {n : Nd} {p : Pt} {b : Nat} {t : TypeId} (h : w'.heap[b]? = some (.cells #[.int .i64 n.lev, .int .i64 n.lsn, .int .i64 n.rgt, .string n.high, .slice p.k n.keys.length p.kc, .slice p.v n.vals.length p.vc, .slice p.i n.kids.length p.ic] t (0, 0))) :
    w'.cell? ⟨b, 0, none⟩ = some (.int .i64 n.lev) ∧ w'.cell? ⟨b, 1, none⟩ = some (.int .i64 n.lsn) ∧ w'.cell? ⟨b, 2, none⟩ = some (.int .i64 n.rgt) ∧ w'.cell? ⟨b, 3, none⟩ = some (.string n.high) ∧
    w'.cell? ⟨b, 4, none⟩ = some (.slice p.k n.keys.length p.kc) ∧ w'.cell? ⟨b, 5, none⟩ = some (.slice p.v n.vals.length p.vc) ∧ w'.cell? ⟨b, 6, none⟩ = some (.slice p.i n.kids.length p.ic) := by
  refine ⟨?_, ?_, ?_, ?_, ?_, ?_, ?_⟩ <;> simp [World.cell?, h]
theorem box_at (w : World) (n : Nd) (p : Pt) (t : TypeId) {w' : World} (f : Fr (fun _ => False) (w.alloc (.cells #[.int .i64 n.lev, .int .i64 n.lsn, .int .i64 n.rgt, .string n.high, .slice p.k n.keys.length p.kc, .slice p.v n.vals.length p.vc, .slice p.i n.kids.length p.ic] t)) w') : w'.heap[w.heap.size]? = some (.cells #[.int .i64 n.lev, .int .i64 n.lsn, .int .i64 n.rgt, .string n.high, .slice p.k n.keys.length p.kc, .slice p.v n.vals.length p.vc, .slice p.i n.kids.length p.ic] t (0, 0)) := by
  rw [f.block w.heap.size (by simp) (fun f => f)]; exact heap_alloc_new w _

set_option maxRecDepth 100000 in
set_option maxHeartbeats 2000000 in
theorem keys_any0 (n : Nd) (pk : Option Addr) (pkc : Nat) (pv : Option Addr) (pvc : Nat) (pi : Option Addr) (pic : Nat) (w : World) (h : Nod w n ⟨pk, pkc, pv, pvc, pi, pic⟩) : Calls Try.prog 63 #[(.agg #[.int .i64 n.lev, .int .i64 n.lsn, .int .i64 n.rgt, .string n.high, .slice pk n.keys.length pkc, .slice pv n.vals.length pvc, .slice pi n.kids.length pic])] w fun e w' => e = .returned (.bool (keysB n)) ∧ Fr (fun _ => False) w w' := by
  have hr := h.keys
  have hle := hr.le
  have hmx := hr.max
  have hhi : n.high.size ≤ maxLen := by have := h.high; unfold maxLen; omega
  have f0 := Fr.box w (.cells #[.int .i64 n.lev, .int .i64 n.lsn, .int .i64 n.rgt, .string n.high, .slice pk n.keys.length pkc, .slice pv n.vals.length pvc, .slice pi n.kids.length pic] 83)
  have hat := h.keys.at_
  simp only at hat hle hmx
  rcases hat with h0 | ⟨b, off, rfl, hb, hc⟩
  · have hl0 : n.keys.length = 0 := by rw [h0]; rfl
    have hl : ¬ (0 : Int) < (n.keys.length : Int) := by omega
    have HK : Hid (keysB n = true) := keysB_yes (fun i hi => by omega)
    clear h0 hl0
    go_enter Try.func63, Try.ntmps63
    go_wp2
    refine wp_loop_rounds 1 ?_
    rw [rounds_succ]
    go_wp2
    go_ret
    exact ⟨ret_bool HK.out.symm, f0⟩
  · have hb0 : b < (w.alloc (.cells #[.int .i64 n.lev, .int .i64 n.lsn, .int .i64 n.rgt, .string n.high, .slice (some ⟨b, off, none⟩) n.keys.length pkc, .slice pv n.vals.length pvc, .slice pi n.kids.length pic] 83)).heap.size := by simp; omega
    have hc0 : ∀ i, i < n.keys.length → (w.alloc (.cells #[.int .i64 n.lev, .int .i64 n.lsn, .int .i64 n.rgt, .string n.high, .slice (some ⟨b, off, none⟩) n.keys.length pkc, .slice pv n.vals.length pvc, .slice pi n.kids.length pic] 83)).cell? ⟨b, off + i, none⟩ = some (.string (n.keys.getD i ByteArray.empty)) := fun i hi => by
      rw [f0.cell (p := ⟨b, off + i, none⟩) hb (fun f => f)]; exact hc i hi
    clear hc
    go_enter Try.func63, Try.ntmps63
    go_wp2
    go_loopw [8] (fun i wr => ∃ k : Nat, k ≤ n.keys.length ∧ i = .int .i64 k ∧ Hid (∀ x, x < k → kok n.high n.keys x) ∧ Fr (fun _ => False) (w.alloc (.cells #[.int .i64 n.lev, .int .i64 n.lsn, .int .i64 n.rgt, .string n.high, .slice (some ⟨b, off, none⟩) n.keys.length pkc, .slice pv n.vals.length pvc, .slice pi n.kids.length pic] 83)) wr) (fun i _ => n.keys.length - (intOf i).toNat)
    case atStart => exact ⟨0, by omega, rfl, (fun x hx => by omega), Fr.refl _ _⟩
    case round =>
      obtain ⟨k, hk, rfl, HE, hf⟩ := hrel
      obtain ⟨c0, c1, c2, c3, c4, c5, c6⟩ := box_cells (p := ⟨some ⟨b, off, none⟩, pkc, pv, pvc, pi, pic⟩) (box_at w n ⟨some ⟨b, off, none⟩, pkc, pv, pvc, pi, pic⟩ 83 hf)
      simp only at c4 c5 c6
      by_cases hlt : k < n.keys.length
      · have hcell := (hf.cell (p := ⟨b, off + k, none⟩) hb0 (fun f => f)).trans (hc0 k hlt)
        have hsz := hr.text _ (strs_get hlt)
        obtain ⟨s, hs⟩ : ∃ s, s = n.keys.getD k ByteArray.empty := ⟨_, rfl⟩
        rw [← hs] at hcell hsz
        have HS : Hid (s = n.keys.getD k ByteArray.empty) := hs
        have HNO : Hid (¬ kok n.high n.keys k → keysB n = false) := fun h => keysB_no k hlt h
        clear hs
        by_cases h1 : 1 ≤ s.size ∧ s.size ≤ 16
        · have H1 : Hid (1 ≤ s.size ∧ s.size ≤ 16) := h1
          have e1 : ekey s.size = 0 := ekey_ok (by omega) (by omega)
          clear h1
          by_cases hk0 : k = 0
          · have hk0' : ¬ (0 : Int) < (k : Int) := by omega
            have HK0 : Hid (k = 0) := hk0
            clear hk0
            by_cases hh : n.high.size = 0
            · have he := bs_nil hh
              have HH : Hid (n.high.size = 0) := hh
              clear hh
              go_wp2_with fail
              refine (kcheck_any _ _).mono ?_
              rw [e1]
              rintro e w1 ⟨rfl, rfl⟩
              go_wp2
              go_roundw
              case rel =>
                refine ⟨k + 1, by omega, by go_num, fun x hx => ?_, hf⟩
                have e : x = k := by have := HK0.out; omega
                rw [e]
                exact ⟨by rw [← HS.out]; exact H1.out, (fun h => by have := HK0.out; omega), fun h => absurd HH.out h⟩
              case measure => simp [intOf]; omega
            · have he := bs_not_nil hh
              have HH : Hid (¬ n.high.size = 0) := hh
              clear hh
              go_wp2_with fail
              refine (kcheck_any _ _).mono ?_
              rw [e1]
              rintro e w1 ⟨rfl, rfl⟩
              go_wp2_with fail
              refine (compare_any s n.high hsz hhi _).mono ?_
              rintro e w2 ⟨rfl, f2⟩
              go_wp2
              · have hg : 0 ≤ cpl (bsOf s) (bsOf n.high) := by assumption
                go_ret
                exact ⟨ret_bool (HNO.out (fun h => by have := h.2.2 HH.out; rw [← HS.out] at this; omega)).symm, (f0.seq' hf).seq' f2⟩
              · have hg : ¬ 0 ≤ cpl (bsOf s) (bsOf n.high) := by first | assumption | (have : cpl (bsOf s) (bsOf n.high) < 0 := by assumption); omega
                go_roundw
                case rel =>
                  refine ⟨k + 1, by omega, by go_num, fun x hx => ?_, hf.seq' f2⟩
                  have e : x = k := by have := HK0.out; omega
                  rw [e]
                  exact ⟨by rw [← HS.out]; exact H1.out, (fun h => by have := HK0.out; omega), fun h => by rw [← HS.out]; omega⟩
                case measure => simp [intOf]; omega
          · have hcell2 := (hf.cell (p := ⟨b, off + (k - 1), none⟩) hb0 (fun f => f)).trans (hc0 (k - 1) (by omega))
            have hsz2 := hr.text _ (strs_get (i := k - 1) (by omega))
            obtain ⟨t, ht⟩ : ∃ s, s = n.keys.getD (k - 1) ByteArray.empty := ⟨_, rfl⟩
            rw [← ht] at hcell2 hsz2
            have HT : Hid (t = n.keys.getD (k - 1) ByteArray.empty) := ht
            have hk0' : (0 : Int) < (k : Int) := by omega
            clear ht hk0
            go_wp2_with fail
            refine (kcheck_any _ _).mono ?_
            rw [e1]
            rintro e w1 ⟨rfl, rfl⟩
            go_wp2_with fail
            refine (compare_any t s hsz2 hsz _).mono ?_
            rintro e w2 ⟨rfl, f2⟩
            have c3' := (f2.cell (p := ⟨w.heap.size, 3, none⟩) (by have := hf.size; simp at this; show w.heap.size < _; omega) (fun f => f)).trans c3
            by_cases g1 : 0 ≤ cpl (bsOf t) (bsOf s)
            · go_wp2
              go_ret
              exact ⟨ret_bool (HNO.out (fun h => by have := h.2.1 (by omega); rw [← HS.out, ← HT.out] at this; omega)).symm, (f0.seq' hf).seq' f2⟩
            · by_cases hh : n.high.size = 0
              · have he := bs_nil hh
                have HH : Hid (n.high.size = 0) := hh
                have G1 : Hid (¬ 0 ≤ cpl (bsOf t) (bsOf s)) := g1
                clear hh
                go_wp2
                go_roundw
                case rel =>
                  refine ⟨k + 1, by omega, by go_num, fun x hx => ?_, hf.seq' f2⟩
                  rcases Nat.lt_or_ge x k with h | h
                  · exact HE.out x h
                  · have e : x = k := by omega
                    rw [e]
                    exact ⟨by rw [← HS.out]; exact H1.out, (fun h => by rw [← HS.out, ← HT.out]; have := G1.out; omega), fun h => absurd HH.out h⟩
                case measure => simp [intOf]; omega
              · have he := bs_not_nil hh
                have HH : Hid (¬ n.high.size = 0) := hh
                have G1 : Hid (¬ 0 ≤ cpl (bsOf t) (bsOf s)) := g1
                clear hh
                go_wp2_with fail
                refine (compare_any s n.high hsz hhi _).mono ?_
                rintro e w3 ⟨rfl, f3⟩
                go_wp2
                · have hg : 0 ≤ cpl (bsOf s) (bsOf n.high) := by assumption
                  go_ret
                  exact ⟨ret_bool (HNO.out (fun h => by have := h.2.2 HH.out; rw [← HS.out] at this; omega)).symm, ((f0.seq' hf).seq' f2).seq' f3⟩
                · have hg : ¬ 0 ≤ cpl (bsOf s) (bsOf n.high) := by first | assumption | (have : cpl (bsOf s) (bsOf n.high) < 0 := by assumption); omega
                  go_roundw
                  case rel =>
                    refine ⟨k + 1, by omega, by go_num, fun x hx => ?_, (hf.seq' f2).seq' f3⟩
                    rcases Nat.lt_or_ge x k with h | h
                    · exact HE.out x h
                    · have e : x = k := by omega
                      rw [e]
                      exact ⟨by rw [← HS.out]; exact H1.out, (fun h => by rw [← HS.out, ← HT.out]; have := G1.out; omega), fun h => by rw [← HS.out]; omega⟩
                  case measure => simp [intOf]; omega
        · have H1 : Hid (¬ (1 ≤ s.size ∧ s.size ≤ 16)) := h1
          have e1 : ekey s.size = 50 := ekey_no (by omega)
          clear h1
          go_wp2_with fail
          refine (kcheck_any _ _).mono ?_
          rw [e1]
          rintro e w1 ⟨rfl, rfl⟩
          go_wp2
          go_ret
          exact ⟨ret_bool (HNO.out (fun h => H1.out (by rw [HS.out]; exact h.1))).symm, f0.seq' hf⟩
      · go_wp2
        go_ret
        exact ⟨ret_bool (keysB_yes (fun x hx => HE.out x (by omega))).symm, f0.seq' hf⟩

theorem keys_any (n : Nd) (p : Pt) (w : World) (h : Nod w n p) : Calls Try.prog 63 #[(.agg #[.int .i64 n.lev, .int .i64 n.lsn, .int .i64 n.rgt, .string n.high, .slice p.k n.keys.length p.kc, .slice p.v n.vals.length p.vc, .slice p.i n.kids.length p.ic])] w fun e w' => e = .returned (.bool (keysB n)) ∧ Fr (fun _ => False) w w' :=
  keys_any0 n p.k p.kc p.v p.vc p.i p.ic w h

set_option maxRecDepth 100000 in
set_option maxHeartbeats 1000000 in
theorem ent_any (n : Nd) (p : Pt) (w : World) (h : Nod w n p) : Calls Try.prog 64 #[(.agg #[.int .i64 n.lev, .int .i64 n.lsn, .int .i64 n.rgt, .string n.high, .slice p.k n.keys.length p.kc, .slice p.v n.vals.length p.vc, .slice p.i n.kids.length p.ic])] w fun e w' => e = .returned (.bool (entB n)) ∧ Fr (fun _ => False) w w' := by
  have f1 := (Fr.box w (.cells #[.int .i64 n.lev, .int .i64 n.lsn, .int .i64 n.rgt, .string n.high, .slice p.k n.keys.length p.kc, .slice p.v n.vals.length p.vc, .slice p.i n.kids.length p.ic] 83)).alloc (.cells #[.int .i64 n.lev, .int .i64 n.lsn, .int .i64 n.rgt, .string n.high, .slice p.k n.keys.length p.kc, .slice p.v n.vals.length p.vc, .slice p.i n.kids.length p.ic] 83)
  have hb := h.same f1
  have hil := h.ilen
  have hkl := h.klen
  by_cases h0 : n.lev = 0
  · have e0 : (n.lev == 0) = true := by simp [h0]
    by_cases a1 : n.vals.length = n.keys.length
    · have a1' : ((n.vals.length : Int) == (n.keys.length : Int)) = true := by simp [a1]
      by_cases a2 : n.kids.length = 0
      · have a2' : ((n.kids.length : Int) == 0) = true := by simp [a2]
        have HE : Hid (entB n = valsB n.vals) := by show entB n = _; unfold entB; rw [if_pos h0]; simp [a1, a2]
        clear h0 a1 a2
        go_enter Try.func64, Try.ntmps64
        go_wp2_with fail
        refine (isLeaf_any n p _).mono ?_
        rintro e w1 ⟨rfl, rfl⟩
        go_wp2_with fail
        refine (vals_any _ _ _ n.vals rfl _ hb.vals).mono ?_
        rintro e w2 ⟨rfl, rfl⟩
        go_wp2
        go_ret
        exact ⟨ret_bool HE.out.symm, f1⟩
      · have a2' : ((n.kids.length : Int) == 0) = false := by rw [beq_eq_false_iff_ne]; omega
        have HE : Hid (entB n = false) := by show entB n = _; unfold entB; rw [if_pos h0]; simp [a2]
        clear h0 a1 a2
        go_enter Try.func64, Try.ntmps64
        go_wp2_with fail
        refine (isLeaf_any n p _).mono ?_
        rintro e w1 ⟨rfl, rfl⟩
        go_wp2
        go_ret
        exact ⟨ret_bool HE.out.symm, f1⟩
    · have a1' : ((n.vals.length : Int) == (n.keys.length : Int)) = false := by rw [beq_eq_false_iff_ne]; omega
      have HE : Hid (entB n = false) := by show entB n = _; unfold entB; rw [if_pos h0]; simp [a1]
      clear h0 a1
      go_enter Try.func64, Try.ntmps64
      go_wp2_with fail
      refine (isLeaf_any n p _).mono ?_
      rintro e w1 ⟨rfl, rfl⟩
      go_wp2
      go_ret
      exact ⟨ret_bool HE.out.symm, f1⟩
  · have e0 : (n.lev == 0) = false := by simpa using h0
    by_cases a1 : n.kids.length = n.keys.length + 1
    · have a1' : ((n.kids.length : Int) == (n.keys.length : Int) + 1) = true := by simp [a1]
      by_cases a2 : n.vals.length = 0
      · have a2' : ((n.vals.length : Int) == 0) = true := by simp [a2]
        have HE : Hid (entB n = kidsB n.kids) := by show entB n = _; unfold entB; rw [if_neg h0]; simp [a1, a2]
        clear h0 a1 a2
        go_enter Try.func64, Try.ntmps64
        go_wp2_with fail
        refine (isLeaf_any n p _).mono ?_
        rintro e w1 ⟨rfl, rfl⟩
        go_wp2_with fail
        refine (kids_any _ _ _ n.kids rfl _ hb.kids).mono ?_
        rintro e w2 ⟨rfl, rfl⟩
        go_wp2
        go_ret
        exact ⟨ret_bool HE.out.symm, f1⟩
      · have a2' : ((n.vals.length : Int) == 0) = false := by rw [beq_eq_false_iff_ne]; omega
        have HE : Hid (entB n = false) := by show entB n = _; unfold entB; rw [if_neg h0]; simp [a2]
        clear h0 a1 a2
        go_enter Try.func64, Try.ntmps64
        go_wp2_with fail
        refine (isLeaf_any n p _).mono ?_
        rintro e w1 ⟨rfl, rfl⟩
        go_wp2
        go_ret
        exact ⟨ret_bool HE.out.symm, f1⟩
    · have a1' : ((n.kids.length : Int) == (n.keys.length : Int) + 1) = false := by rw [beq_eq_false_iff_ne]; omega
      have HE : Hid (entB n = false) := by show entB n = _; unfold entB; rw [if_neg h0]; simp [a1]
      clear h0 a1
      go_enter Try.func64, Try.ntmps64
      go_wp2_with fail
      refine (isLeaf_any n p _).mono ?_
      rintro e w1 ⟨rfl, rfl⟩
      go_wp2
      go_ret
      exact ⟨ret_bool HE.out.symm, f1⟩
end Go.Proofs.Ytcmkpmilnplhmaa

/- What page.Check tells. -/
namespace Go.Proofs.Ytcmkpmilnplhmaa
open Go.RowKit

theorem all_of {l : List ByteArray} {m : Nat} (h : ∀ i, i < l.length → (l.getD i ByteArray.empty).size ≤ m) : ∀ s ∈ l, s.size ≤ m := by
  intro s hs
  obtain ⟨i, hi, he⟩ := List.getElem_of_mem hs
  have := h i hi
  rw [List.getD_eq_getElem?_getD, List.getElem?_eq_getElem hi] at this
  simp only [Option.getD_some] at this
  rw [he] at this; exact this
theorem small_size {w : World} {n : Nd} {p : Pt} (h : Nod w n p) (h1 : headB n = true) (h2 : keysB n = true) (h3 : entB n = true) : sizeN n < 9223372036854775808 := by
  have a1 : n.high.size ≤ 16 := by simp [headB] at h1; exact h1.2.2.2
  have a2 := tsz_le n.keys 16 (all_of (fun i hi => (keysB_of h2 i hi).1.2))
  have hk := h.klen
  have hv := h.vlen
  have hi := h.ilen
  unfold sizeN
  by_cases h0 : n.lev = 0
  · rw [if_pos h0]
    unfold entB at h3
    rw [if_pos h0] at h3
    simp only [Bool.and_eq_true] at h3
    have a3 := tsz_le n.vals 32 (all_of (valsB_of h3.2.2))
    omega
  · rw [if_neg h0]; omega
theorem wrap_id {x : Nat} (h : x < 9223372036854775808) : wrap64 (x : Int) = (x : Int) := by unfold wrap64; omega
/-- What Check tells. -/
def epage (n : Nd) : Nat := if rightB n = true then 0 else 60
theorem epage_no {n : Nd} (h : rightB n = false) : epage n = 60 := by unfold epage; rw [h]; rfl
theorem epage_yes {n : Nd} (h : rightB n = true) : epage n = 0 := by unfold epage; rw [h]; rfl

set_option maxRecDepth 100000 in
set_option maxHeartbeats 1000000 in
theorem check_any (n : Nd) (p : Pt) (w : World) (h : Nod w n p) : Calls Try.prog 57 #[(.agg #[.int .i64 n.lev, .int .i64 n.lsn, .int .i64 n.rgt, .string n.high, .slice p.k n.keys.length p.kc, .slice p.v n.vals.length p.vc, .slice p.i n.kids.length p.ic])] w fun e w' => e = .returned (.int .i64 (epage n : Nat)) ∧ Fr (fun _ => False) w w' := by
  have f0 := Fr.box w (.cells #[.int .i64 n.lev, .int .i64 n.lsn, .int .i64 n.rgt, .string n.high, .slice p.k n.keys.length p.kc, .slice p.v n.vals.length p.vc, .slice p.i n.kids.length p.ic] 83)
  have f1 := f0.alloc (.cells #[.int .i64 n.lev, .int .i64 n.lsn, .int .i64 n.rgt, .string n.high, .slice p.k n.keys.length p.kc, .slice p.v n.vals.length p.vc, .slice p.i n.kids.length p.ic] 83)
  have sm := small_size h
  have hr : rightB n = (headB n && (keysB n && (entB n && decide (sizeN n ≤ 256)))) := rfl
  obtain ⟨b1, h1⟩ : ∃ b, headB n = b := ⟨_, rfl⟩
  obtain ⟨b2, h2⟩ : ∃ b, keysB n = b := ⟨_, rfl⟩
  obtain ⟨b3, h3⟩ : ∃ b, entB n = b := ⟨_, rfl⟩
  rw [h1, h2, h3] at hr
  cases b1
  · have e60 := epage_no (n := n) (by rw [hr]; simp)
    rw [e60]
    have H1 : Hid (headB n = false) := h1
    clear hr h1 h2 h3 sm
    go_enter Try.func57, Try.ntmps57
    go_wp2_with fail
    refine (head_any n p _).mono ?_
    rw [H1.out]
    rintro e w1 ⟨rfl, rfl⟩
    go_wp2
    go_ret
    exact ⟨rfl, f1⟩
  · have H1 : Hid (headB n = true) := h1
    cases b2
    · have e60 := epage_no (n := n) (by rw [hr]; simp)
      rw [e60]
      have H2 : Hid (keysB n = false) := h2
      clear hr h1 h2 h3 sm
      go_enter Try.func57, Try.ntmps57
      go_wp2_with fail
      refine (head_any n p _).mono ?_
      rw [H1.out]
      rintro e w1 ⟨rfl, rfl⟩
      go_wp2_with fail
      refine (keys_any n p _ (h.same f1)).mono ?_
      rw [H2.out]
      rintro e w2 ⟨rfl, f2⟩
      go_wp2
      go_ret
      exact ⟨rfl, f1.seq' f2⟩
    · have H2 : Hid (keysB n = true) := h2
      cases b3
      · have e60 := epage_no (n := n) (by rw [hr]; simp)
        rw [e60]
        have H3 : Hid (entB n = false) := h3
        clear hr h1 h2 h3 sm
        go_enter Try.func57, Try.ntmps57
        go_wp2_with fail
        refine (head_any n p _).mono ?_
        rw [H1.out]
        rintro e w1 ⟨rfl, rfl⟩
        go_wp2_with fail
        refine (keys_any n p _ (h.same f1)).mono ?_
        rw [H2.out]
        rintro e w2 ⟨rfl, f2⟩
        obtain ⟨c0, c1, c2, c3, c4, c5, c6⟩ := box_cells (box_at w n p 83 (((Fr.refl _ _).alloc _).seq' f2))
        go_wp2_with fail
        refine (ent_any n p _ (h.same (f1.seq' f2))).mono ?_
        rw [H3.out]
        rintro e w3 ⟨rfl, f3⟩
        go_wp2
        go_ret
        exact ⟨rfl, (f1.seq' f2).seq' f3⟩
      · have H3 : Hid (entB n = true) := h3
        have sm2 := sm h1 h2 h3
        have hw := wrap_id sm2
        by_cases hz : sizeN n ≤ 256
        · have e0 := epage_yes (n := n) (by rw [hr]; simp [hz])
          rw [e0]
          clear hr h1 h2 h3 sm
          go_enter Try.func57, Try.ntmps57
          go_wp2_with fail
          refine (head_any n p _).mono ?_
          rw [H1.out]
          rintro e w1 ⟨rfl, rfl⟩
          go_wp2_with fail
          refine (keys_any n p _ (h.same f1)).mono ?_
          rw [H2.out]
          rintro e w2 ⟨rfl, f2⟩
          have fb := ((Fr.refl (fun _ => False) (w.alloc (.cells #[.int .i64 n.lev, .int .i64 n.lsn, .int .i64 n.rgt, .string n.high, .slice p.k n.keys.length p.kc, .slice p.v n.vals.length p.vc, .slice p.i n.kids.length p.ic] 83))).alloc (.cells #[.int .i64 n.lev, .int .i64 n.lsn, .int .i64 n.rgt, .string n.high, .slice p.k n.keys.length p.kc, .slice p.v n.vals.length p.vc, .slice p.i n.kids.length p.ic] 83)).seq' f2
          obtain ⟨c0, c1, c2, c3, c4, c5, c6⟩ := box_cells (box_at w n p 83 fb)
          go_wp2_with fail
          refine (ent_any n p _ (h.same (f1.seq' f2))).mono ?_
          rw [H3.out]
          rintro e w3 ⟨rfl, f3⟩
          obtain ⟨d0, d1, d2, d3, d4, d5, d6⟩ := box_cells (box_at w n p 83 (fb.seq' f3))
          go_wp2_with fail
          refine (size_any n p _ (h.same ((f1.seq' f2).seq' f3))).mono ?_
          rw [hw]
          rintro e w4 ⟨rfl, f4⟩
          go_wp2
          go_ret
          exact ⟨rfl, ((f1.seq' f2).seq' f3).seq' f4⟩
        · have e0 := epage_no (n := n) (by rw [hr]; simp [hz])
          rw [e0]
          clear hr h1 h2 h3 sm
          go_enter Try.func57, Try.ntmps57
          go_wp2_with fail
          refine (head_any n p _).mono ?_
          rw [H1.out]
          rintro e w1 ⟨rfl, rfl⟩
          go_wp2_with fail
          refine (keys_any n p _ (h.same f1)).mono ?_
          rw [H2.out]
          rintro e w2 ⟨rfl, f2⟩
          have fb := ((Fr.refl (fun _ => False) (w.alloc (.cells #[.int .i64 n.lev, .int .i64 n.lsn, .int .i64 n.rgt, .string n.high, .slice p.k n.keys.length p.kc, .slice p.v n.vals.length p.vc, .slice p.i n.kids.length p.ic] 83))).alloc (.cells #[.int .i64 n.lev, .int .i64 n.lsn, .int .i64 n.rgt, .string n.high, .slice p.k n.keys.length p.kc, .slice p.v n.vals.length p.vc, .slice p.i n.kids.length p.ic] 83)).seq' f2
          obtain ⟨c0, c1, c2, c3, c4, c5, c6⟩ := box_cells (box_at w n p 83 fb)
          go_wp2_with fail
          refine (ent_any n p _ (h.same (f1.seq' f2))).mono ?_
          rw [H3.out]
          rintro e w3 ⟨rfl, f3⟩
          obtain ⟨d0, d1, d2, d3, d4, d5, d6⟩ := box_cells (box_at w n p 83 (fb.seq' f3))
          go_wp2_with fail
          refine (size_any n p _ (h.same ((f1.seq' f2).seq' f3))).mono ?_
          rw [hw]
          rintro e w4 ⟨rfl, f4⟩
          go_wp2
          go_ret
          exact ⟨rfl, ((f1.seq' f2).seq' f3).seq' f4⟩
end Go.Proofs.Ytcmkpmilnplhmaa

/- What the document's own Size tells. -/
namespace Go.Proofs.Ytcmkpmilnplhmaa
open Go.RowKit

theorem wrap_step (g s q : Nat) (h : q = g + (s + 2)) : wrap64 (wrap64 (wrap64 (g : Int) + 2) + (s : Int)) = wrap64 (q : Int) := by
  subst h; unfold wrap64; omega
theorem wrap_four (g s q : Nat) (h : q = g + 4 * s) : wrap64 (wrap64 (g : Int) + 4 * (s : Int)) = wrap64 (q : Int) := by
  subst h; rw [wrap_add]; congr 1
theorem strs_some {w : World} {a : Option Addr} {cap : Nat} {l : List ByteArray} (h : Strs w a cap l) {k : Nat} (hk : k < l.length) : ∃ b off, a = some ⟨b, off, none⟩ ∧ b < w.heap.size ∧ ∀ i, i < l.length → w.cell? ⟨b, off + i, none⟩ = some (.string (l.getD i ByteArray.empty)) := by
  rcases h.at_ with h0 | h0
  · rw [h0] at hk; simp at hk
  · exact h0
theorem ints_some {w : World} {a : Option Addr} {cap : Nat} {l : List Int} (h : Ints w a cap l) {k : Nat} (hk : k < l.length) : ∃ b off, a = some ⟨b, off, none⟩ ∧ b < w.heap.size ∧ ∀ i, i < l.length → w.cell? ⟨b, off + i, none⟩ = some (.int .i64 (l.getD i 0)) := by
  rcases h.at_ with h0 | h0
  · rw [h0] at hk; simp at hk
  · exact h0

end Go.Proofs.Ytcmkpmilnplhmaa
