
/- Crc, Turn, GoOn, Sums. -/
import Derived.Test.YtcmkpmilnplhmaaWT1
/- The plain mathematics of the sum of layer 2: a register of 32 bits into which octs are fed, its linearity, and that a burst of up to 32 turned bits never leaves it as it was. -/
namespace Go.Proofs.Ytcmkpmilnplhmaa.Crcm

/-- One bit of the register falls out. -/
def step1 (s : Nat) : Nat := if s % 2 = 1 then (s / 2) ^^^ 3988292384 else s / 2
def steps : Nat → Nat → Nat
  | 0, s => s
  | n + 1, s => step1 (steps n s)
def feed (s x : Nat) : Nat := steps 8 (s ^^^ x)
def reg (s : Nat) (l : List Nat) : Nat := l.foldl feed s
def crc (l : List Nat) : Nat := reg 4294967295 l ^^^ 4294967295
/-- Four octs of a number, the lowest first. -/
def le4 (v : Nat) : List Nat := [v % 256, v / 256 % 256, v / 65536 % 256, v / 16777216 % 256]

theorem xor_swap (a b c d : Nat) : (a ^^^ b) ^^^ (c ^^^ d) = (a ^^^ c) ^^^ (b ^^^ d) := by
  rw [Nat.xor_assoc, Nat.xor_assoc, ← Nat.xor_assoc b, Nat.xor_comm b c, Nat.xor_assoc c]

theorem xor_rc (a b c : Nat) : a ^^^ b ^^^ c = a ^^^ c ^^^ b := by rw [Nat.xor_assoc, Nat.xor_comm b c, ← Nat.xor_assoc]
theorem xor_eq_zero {a b : Nat} (h : a ^^^ b = 0) : a = b := by
  have := congrArg (fun x => x ^^^ b) h
  simpa [Nat.xor_assoc] using this
theorem xor_mod2 (a b : Nat) : (a ^^^ b) % 2 = (a % 2 + b % 2) % 2 := by
  have h := Nat.xor_mod_two_eq_one (a := a) (b := b)
  by_cases h1 : (a ^^^ b) % 2 = 1 <;> by_cases h2 : a % 2 = 1 <;> by_cases h3 : b % 2 = 1 <;> simp [h1, h2, h3] at h <;> omega

theorem step1_xor (a b : Nat) : step1 (a ^^^ b) = step1 a ^^^ step1 b := by
  have h2 := xor_mod2 a b
  have hd : (a ^^^ b) / 2 = a / 2 ^^^ b / 2 := Nat.xor_div_two
  unfold step1
  rw [h2, hd]
  rcases Nat.mod_two_eq_zero_or_one a with ha | ha <;> rcases Nat.mod_two_eq_zero_or_one b with hb | hb <;> simp [ha, hb]
  · rw [Nat.xor_assoc]
  · rw [xor_rc]
  · rw [xor_swap, Nat.xor_self, Nat.xor_zero]

theorem step1_zero : step1 0 = 0 := rfl
theorem step1_lt {s : Nat} (h : s < 4294967296) : step1 s < 4294967296 := by
  unfold step1
  split
  · exact Nat.xor_lt_two_pow (n := 32) (by omega) (by omega)
  · omega

theorem step1_nz {s : Nat} (h : s < 4294967296) (e : step1 s = 0) : s = 0 := by
  unfold step1 at e
  split at e
  · have := xor_eq_zero e
    omega
  · omega

theorem step1_dbl (a : Nat) : step1 (a * 2) = a := by
  unfold step1
  rw [if_neg (by omega)]; omega

theorem steps_xor (n a b : Nat) : steps n (a ^^^ b) = steps n a ^^^ steps n b := by
  induction n with
  | zero => rfl
  | succ n ih => simp [steps, ih, step1_xor]
theorem steps_zero (n : Nat) : steps n 0 = 0 := by
  induction n with
  | zero => rfl
  | succ n ih => simp [steps, ih, step1_zero]
theorem steps_lt (n : Nat) {s : Nat} (h : s < 4294967296) : steps n s < 4294967296 := by
  induction n with
  | zero => exact h
  | succ n ih => exact step1_lt ih
theorem steps_nz (n : Nat) {s : Nat} (h : s < 4294967296) (e : steps n s = 0) : s = 0 := by
  induction n with
  | zero => exact e
  | succ n ih => exact ih (step1_nz (steps_lt n h) e)
theorem steps_add (m n a : Nat) : steps m (steps n a) = steps (m + n) a := by
  induction m with
  | zero => simp [steps]
  | succ m ih => rw [Nat.succ_add]; simp [steps, ih]
theorem steps_pow (j a : Nat) : steps j (a * 2 ^ j) = a := by
  induction j generalizing a with
  | zero => simp [steps]
  | succ j ih =>
    have : a * 2 ^ (j + 1) = (a * 2) * 2 ^ j := by rw [Nat.pow_succ, Nat.mul_comm (2 ^ j) 2, Nat.mul_assoc]
    rw [steps, this, ih, step1_dbl]

theorem feed_xor (a b x y : Nat) : feed (a ^^^ b) (x ^^^ y) = feed a x ^^^ feed b y := by
  unfold feed; rw [← steps_xor, xor_swap]
theorem feed_lt {s x : Nat} (h : s < 4294967296) (hx : x < 4294967296) : feed s x < 4294967296 :=
  steps_lt 8 (Nat.xor_lt_two_pow (n := 32) h hx)


theorem reg_nil (s : Nat) : reg s [] = s := rfl
theorem reg_cons (s x : Nat) (l : List Nat) : reg s (x :: l) = reg (feed s x) l := by simp only [reg, List.foldl_cons]
theorem reg_append (s : Nat) (l m : List Nat) : reg s (l ++ m) = reg (reg s l) m := by simp [reg, List.foldl_append]
theorem reg_snoc (s : Nat) (l : List Nat) (x : Nat) : reg s (l ++ [x]) = feed (reg s l) x := by simp [reg, List.foldl_append]
theorem reg_lt {s : Nat} {l : List Nat} (h : s < 4294967296) (hl : octs l) : reg s l < 4294967296 := by
  induction l generalizing s with
  | nil => exact h
  | cons x l ih =>
    rw [reg_cons]
    exact ih (feed_lt h (by have := hl x (by simp); omega)) (fun y hy => hl y (by simp [hy]))
theorem crc_lt {l : List Nat} (hl : octs l) : crc l < 4294967296 := by
  unfold crc
  have h := reg_lt (s := 4294967295) (by omega) hl
  generalize reg 4294967295 l = r at h ⊢
  exact Nat.xor_lt_two_pow (n := 32) (by omega) (by omega)

/-- Two rows of one length, mixed. -/
def mix (a b : List Nat) : List Nat := List.zipWith (fun x y => x ^^^ y) a b
theorem reg_mix (s t : Nat) (a b : List Nat) (h : a.length = b.length) : reg (s ^^^ t) (mix a b) = reg s a ^^^ reg t b := by
  induction a generalizing s t b with
  | nil => cases b with
    | nil => rfl
    | cons => simp at h
  | cons x a ih => cases b with
    | nil => simp at h
    | cons y b =>
      show reg (feed (s ^^^ t) (x ^^^ y)) (mix a b) = _
      rw [feed_xor, ih _ _ _ (by simpa using h)]; rfl

theorem crc_mix3 (a b c : List Nat) (h1 : a.length = b.length) (h2 : a.length = c.length) : crc (mix (mix a b) c) = crc a ^^^ crc b ^^^ crc c := by
  have e : (4294967295 : Nat) = (4294967295 ^^^ 4294967295) ^^^ 4294967295 := by decide
  have h3 : (mix a b).length = c.length := by simp [mix, List.length_zipWith]; omega
  have r : reg 4294967295 (mix (mix a b) c) = reg 4294967295 a ^^^ reg 4294967295 b ^^^ reg 4294967295 c := by
    have := reg_mix (4294967295 ^^^ 4294967295) 4294967295 (mix a b) c h3
    rw [reg_mix _ _ _ _ h1, ← e] at this
    exact this
  unfold crc
  rw [r]
  generalize reg 4294967295 a = A
  generalize reg 4294967295 b = B
  generalize reg 4294967295 c = C
  rw [xor_swap A _ B _, Nat.xor_self, Nat.xor_zero, Nat.xor_assoc (A ^^^ B)]

/-- A byte of a row, turned by one bit. -/
theorem reg_zeros (s n : Nat) : reg s (List.replicate n 0) = steps (8 * n) s := by
  induction n generalizing s with
  | zero => rfl
  | succ n ih =>
    rw [List.replicate_succ, reg_cons, ih]
    unfold feed; rw [Nat.xor_zero, steps_add]; congr 1

theorem reg_turn (s : Nat) (l : List Nat) (j m : Nat) (h : j < l.length) :
    reg s (l.set j (l[j] ^^^ m)) = reg s l ^^^ steps (8 * (l.length - j)) m := by
  have lin : ∀ (l : List Nat) (s d : Nat), reg (s ^^^ d) l = reg s l ^^^ steps (8 * l.length) d := by
    intro l
    induction l with
    | nil => intro s d; rfl
    | cons x l ih =>
      intro s d
      rw [reg_cons, reg_cons]
      have : feed (s ^^^ d) x = feed s x ^^^ steps 8 d := by unfold feed; rw [xor_rc, steps_xor]
      rw [this, ih, steps_add]; congr 2
  induction l generalizing s j with
  | nil => simp at h
  | cons x l ih =>
    cases j with
    | zero =>
      simp only [List.set_cons_zero, List.getElem_cons_zero, reg_cons, List.length_cons]
      have : feed s (x ^^^ m) = feed s x ^^^ steps 8 m := by unfold feed; rw [← Nat.xor_assoc, steps_xor]
      rw [this, lin, steps_add]; congr 2
    | succ j =>
      simp only [List.set_cons_succ, List.getElem_cons_succ, reg_cons, List.length_cons]
      rw [ih _ _ (by simpa using h)]; congr 3; omega

theorem xor_join (a b k : Nat) (h : a < 2 ^ k) : a ^^^ b * 2 ^ k = a + b * 2 ^ k := by
  have e : a + b * 2 ^ k = 2 ^ k * b + a := by rw [Nat.mul_comm, Nat.add_comm]
  rw [e, Nat.two_pow_add_eq_or_of_lt h]
  apply Nat.eq_of_testBit_eq
  intro i
  rw [Nat.testBit_xor, Nat.testBit_or, Nat.mul_comm b, Nat.testBit_two_pow_mul]
  by_cases hi : k ≤ i
  · have : a.testBit i = false := Nat.testBit_lt_two_pow (Nat.lt_of_lt_of_le h (Nat.pow_le_pow_right (by omega) hi))
    simp [this, hi]
  · simp [hi]

/-- A burst: the bits of p below i, from bit 'at' on. -/
theorem turn_bit (n at_ i p : Nat) (hi : i < 32) (hn : at_ + 32 ≤ 8 * n) :
    steps (8 * n - at_) (p % 2 ^ i) ^^^ steps (8 * (n - (at_ + i) / 8)) (2 ^ ((at_ + i) % 8)) = steps (8 * n - at_) (p % 2 ^ i + 2 ^ i) := by
  have e1 : steps (8 * (n - (at_ + i) / 8)) (2 ^ ((at_ + i) % 8)) = steps (8 * n - at_) (2 ^ i) := by
    have a1 : 8 * (n - (at_ + i) / 8) = (8 * n - at_ - i) + (at_ + i) % 8 := by omega
    have a2 : 8 * n - at_ = (8 * n - at_ - i) + i := by omega
    rw [a1, ← steps_add]
    conv => rhs; rw [a2, ← steps_add]
    have b1 := steps_pow ((at_ + i) % 8) 1
    have b2 := steps_pow i 1
    rw [Nat.one_mul] at b1 b2
    rw [b1, b2]
  rw [e1, ← steps_xor]
  have := xor_join (p % 2 ^ i) 1 i (Nat.mod_lt _ (Nat.two_pow_pos i))
  rw [Nat.one_mul] at this
  rw [this]

theorem mod_succ_bit (p i : Nat) : p % 2 ^ (i + 1) = p % 2 ^ i + 2 ^ i * (p / 2 ^ i % 2) := by
  rw [Nat.pow_succ, Nat.mod_mul]

/-- The register behind the four octs of a number. -/
theorem reg_le4 (s v : Nat) (hv : v < 4294967296) : reg s (le4 v) = steps 32 (s ^^^ v) := by
  have one : ∀ a x k, steps k a ^^^ x = steps k (a ^^^ x * 2 ^ k) := by intro a x k; rw [steps_xor, steps_pow]
  simp only [le4, reg_cons, reg_nil, feed]
  rw [one (s ^^^ v % 256) (v / 256 % 256) 8, steps_add, one _ (v / 65536 % 256) (8 + 8), steps_add, one _ (v / 16777216 % 256) (8 + (8 + 8)), steps_add]
  congr 1
  have j1 := xor_join (v % 256) (v / 256 % 256) 8 (by omega)
  have j2 := xor_join (v % 256 + v / 256 % 256 * 2 ^ 8) (v / 65536 % 256) 16 (by omega)
  have j3 := xor_join (v % 256 + v / 256 % 256 * 2 ^ 8 + v / 65536 % 256 * 2 ^ 16) (v / 16777216 % 256) 24 (by omega)
  rw [Nat.xor_assoc s, j1, Nat.xor_assoc s, j2, Nat.xor_assoc s, j3]
  congr 1
  omega

theorem val_le4 (v : Nat) (hv : v < 4294967296) : val (le4 v) = v := by
  simp only [val, le4]; omega
theorem le4_val (l : List Nat) (hl : octs l) (h : l.length = 4) : le4 (val l) = l ∧ val l < 4294967296 := by
  match l, h with
  | [a, b, c, d], _ =>
    have := hl a (by simp); have := hl b (by simp); have := hl c (by simp); have := hl d (by simp)
    simp only [val, le4]
    refine ⟨?_, by omega⟩
    simp only [List.cons.injEq, and_true]
    omega

theorem le4_octs (v : Nat) : octs (le4 v) := by
  intro x hx
  simp only [le4, List.mem_cons, List.not_mem_nil, or_false] at hx
  omega

/-- What was sealed leaves a register that is always the same; and only that. -/
theorem seal_reg (l : List Nat) (hl : octs l) : reg 4294967295 (l ++ le4 (crc l)) = steps 32 4294967295 := by
  rw [reg_append, reg_le4 _ _ (crc_lt hl)]
  unfold crc
  rw [← Nat.xor_assoc, Nat.xor_self, Nat.zero_xor]
theorem open_reg (l t : List Nat) (hl : octs l) (ht : octs t) (h4 : t.length = 4) (h : val t = crc l) : reg 4294967295 (l ++ t) = steps 32 4294967295 := by
  rw [← (le4_val t ht h4).1, h, seal_reg l hl]

/-- What is turned is found. -/
theorem turned_found (l t : List Nat) (m p : Nat) (hl : octs l) (ht : octs t) (h4 : t.length = 4) (hp : p < 4294967296) (hp0 : p ≠ 0)
    (h : reg 4294967295 (l ++ t) = steps 32 4294967295 ^^^ steps m p) : val t ≠ crc l := by
  intro e
  rw [open_reg l t hl ht h4 e] at h
  have : steps m p = 0 := by
    have h2 := congrArg (fun x => steps 32 4294967295 ^^^ x) h
    simp only [Nat.xor_self, ← Nat.xor_assoc, Nat.zero_xor] at h2
    exact h2.symm
  exact hp0 (steps_nz m hp this)

/-- The document's second way: each bit by itself. -/
theorem serial (s x i : Nat) : ((steps i (s ^^^ x) ^^^ x / 2 ^ i) / 2) ^^^ (if steps i (s ^^^ x) % 2 = 1 then 3988292384 else 0) = steps (i + 1) (s ^^^ x) ^^^ x / 2 ^ (i + 1) := by
  have hd : ∀ a b : Nat, (a ^^^ b) / 2 = a / 2 ^^^ b / 2 := fun a b => Nat.xor_div_two
  rw [hd, steps, step1, Nat.div_div_eq_div_mul, ← Nat.pow_succ]
  split
  · rw [xor_rc]
  · rw [Nat.xor_zero]

end Go.Proofs.Ytcmkpmilnplhmaa.Crcm

/- What crc.turn does: eight bits of the register fall out. -/
namespace Go.Proofs.Ytcmkpmilnplhmaa
open Go.RowKit Crcm

theorem and1_u32 (s : Nat) (h : s < 4294967296) : bits .and .u32 (s : Int) 1 = ((s % 2 : Nat) : Int) := by
  have := u32_and_nat s 1 h (by omega)
  rw [nat_mask1] at this
  exact this
theorem xorp_u32 (s : Nat) (h : s < 4294967296) : bits .xor .u32 (s : Int) 3988292384 = ((s ^^^ 3988292384 : Nat) : Int) := u32_xor_nat s 3988292384 h (by omega)

theorem step_hit (t : Nat) (ht : t < 4294967296) (h : (bits BinOp.and IntKind.u32 (t : Int) 1 == 1) = true) : bits BinOp.xor IntKind.u32 ((t : Int) / 2) 3988292384 = ((step1 t : Nat) : Int) := by
  rw [and1_u32 t ht] at h
  have h1 : t % 2 = 1 := by simp at h; omega
  have e : (t : Int) / 2 = ((t / 2 : Nat) : Int) := by omega
  rw [e, xorp_u32 _ (by omega), step1, if_pos h1]
theorem step_miss (t : Nat) (ht : t < 4294967296) (h : (bits BinOp.and IntKind.u32 (t : Int) 1 == 1) = false) : (t : Int) / 2 = ((step1 t : Nat) : Int) := by
  rw [and1_u32 t ht] at h
  have h1 : ¬ t % 2 = 1 := by
    intro e; rw [e] at h; simp at h
  rw [step1, if_neg h1]; omega

set_option maxRecDepth 100000 in
set_option maxHeartbeats 400000 in
theorem turn_any (s : Nat) (hs : s < 4294967296) (w : World) :
    Calls Try.prog 58 #[.int .u32 s] w fun e w' => e = .returned (.int .u32 (steps 8 s)) ∧ w' = w := by
  go_enter Try.func58, Try.ntmps58
  go_wp2
  go_loop [0, 4] (fun t i => ∃ k : Nat, k ≤ 8 ∧ i = .int .i64 k ∧ t = .int .u32 (steps k s)) (fun _ i => 8 - (intOf i).toNat)
  case atStart => exact ⟨0, by omega, rfl, rfl⟩
  case round =>
    obtain ⟨k, hk, rfl, rfl⟩ := hrel
    by_cases hlt : k < 8
    · go_wp2
      · have h : (bits BinOp.and IntKind.u32 ((steps k s : Nat) : Int) 1 == 1) = true := by assumption
        go_round
        case rel => exact ⟨k + 1, by omega, by go_num, by rw [step_hit _ (steps_lt k hs) h]; rfl⟩
        case measure => simp [intOf]; omega
      · have h : (bits BinOp.and IntKind.u32 ((steps k s : Nat) : Int) 1 == 1) = false := by assumption
        go_round
        case rel => exact ⟨k + 1, by omega, by go_num, by rw [step_miss _ (steps_lt k hs) h]; rfl⟩
        case measure => simp [intOf]; omega
    · have e8 : k = 8 := by omega
      subst e8
      go_wp2
      go_ret
      exact ⟨rfl, rfl⟩
end Go.Proofs.Ytcmkpmilnplhmaa

/- What crc.goOn, crc.Sum and crc.More do: the bytes are fed into the register. -/
namespace Go.Proofs.Ytcmkpmilnplhmaa
open Go.RowKit Crcm

theorem cpl_u32 (s : Nat) (h : s < 4294967296) : bits BinOp.xor IntKind.u32 IntKind.u32.max (s : Int) = ((s ^^^ 4294967295 : Nat) : Int) := by
  have := u32_xor_nat 4294967295 s (by omega) h
  rw [Nat.xor_comm] at this
  exact this
theorem xor32_lt {a b : Nat} (ha : a < 4294967296) (hb : b < 4294967296) : a ^^^ b < 4294967296 := Nat.xor_lt_two_pow (n := 32) (by omega) (by omega)
set_option maxRecDepth 100000 in
set_option maxHeartbeats 400000 in
theorem goOn_any (s : Nat) (hs : s < 4294967296) (a : Option Addr) (cap : Nat) (l : List Nat) (w : World) (hr : Row w a cap l) :
    Calls Try.prog 50 #[.int .u32 s, .slice a l.length cap] w fun e w' => e = .returned (.int .u32 ((reg (s ^^^ 4294967295) l ^^^ 4294967295 : Nat) : Int)) ∧ w' = w := by
  have hm := hr.small
  have hl := hr.le
  have hz : s ^^^ 4294967295 < 4294967296 := xor32_lt hs (by omega)
  rcases hr.at_ with h0 | ⟨b, off, rfl, _, hc⟩
  · subst h0
    go_enter Try.func50, Try.ntmps50
    go_wp2
    refine wp_loop_rounds 1 ?_
    rw [rounds_succ]
    go_wp2
    go_ret
    exact ⟨ret_int (by rw [cpl_u32 s hs, cpl_u32 _ hz]; rfl), rfl⟩
  · go_enter Try.func50, Try.ntmps50
    go_wp2
    go_loop [5, 12] (fun t i => ∃ k : Nat, k ≤ l.length ∧ i = .int .i64 k ∧ t = .int .u32 ((reg (s ^^^ 4294967295) (l.take k) : Nat) : Int)) (fun _ i => l.length - (intOf i).toNat)
    case atStart => exact ⟨0, by omega, rfl, val_int (cpl_u32 s hs)⟩
    case round =>
      obtain ⟨k, hk, rfl, rfl⟩ := hrel
      have hrl := reg_lt (s := s ^^^ 4294967295) hz (octs_take hr.byte k)
      by_cases hlt : k < l.length
      · have hcell := hc k hlt
        have hxl := octs_getD hr.byte k
        have HS : Hid (reg (s ^^^ 4294967295) (l.take (k + 1)) = steps 8 (reg (s ^^^ 4294967295) (l.take k) ^^^ l.getD k 0)) := by
          rw [take_snoc l k hlt, reg_snoc]; rfl
        obtain ⟨x, hxd⟩ : ∃ x, x = l.getD k 0 := ⟨_, rfl⟩
        obtain ⟨r, hrd⟩ : ∃ r, r = reg (s ^^^ 4294967295) (l.take k) := ⟨_, rfl⟩
        rw [← hxd] at hcell hxl HS
        rw [← hrd] at hrl HS ⊢
        clear hxd hrd hc
        have hx := u32_xor_nat r x hrl (by omega)
        have hx2 := xor32_lt hrl (show x < 4294967296 by omega)
        go_wp2_with (go_at_call 58; refine (turn_any _ hx2 _).mono ?_; rintro e w' ⟨rfl, rfl⟩)
        go_round
        case rel => exact ⟨k + 1, by omega, by go_num, by rw [HS.out]⟩
        case measure => simp [intOf]; omega
      · have ek : l.take k = l := List.take_of_length_le (by omega)
        rw [ek] at hrl ⊢
        go_wp2
        go_ret
        exact ⟨ret_int (cpl_u32 _ hrl), rfl⟩
end Go.Proofs.Ytcmkpmilnplhmaa

/- What crc.Sum and crc.More tell, and what the document's own Sum and More tell: the same. -/
namespace Go.Proofs.Ytcmkpmilnplhmaa
open Go.RowKit Crcm

theorem crc_zero (l : List Nat) : reg (0 ^^^ 4294967295) l ^^^ 4294967295 = crc l := by rw [Nat.zero_xor]; rfl

set_option maxRecDepth 100000 in
set_option maxHeartbeats 400000 in
theorem sum_any (a : Option Addr) (n cap : Nat) (l : List Nat) (hn : n = l.length) (w : World) (hr : Row w a cap l) :
    Calls Try.prog 40 #[.slice a n cap] w fun e w' => e = .returned (.int .i64 ((crc l : Nat) : Int)) ∧ w' = w := by
  subst hn
  have hb := crc_lt hr.byte
  go_enter Try.func40, Try.ntmps40
  go_wp2_with fail
  refine (goOn_any 0 (by omega) a cap l _ hr).mono ?_
  rintro e w' ⟨rfl, rfl⟩
  rw [crc_zero]
  go_wp2
  go_ret
  exact ⟨rfl, rfl⟩

theorem ser_lt {y x j : Nat} (hy : y < 4294967296) (hx : x < 256) : steps j y ^^^ x / 2 ^ j < 4294967296 :=
  xor32_lt (steps_lt j hy) (Nat.lt_of_le_of_lt (Nat.div_le_self _ _) (by omega))
theorem more_bit (y x j : Nat) (hy : y < 4294967296) (hx : x < 256) : bits BinOp.and IntKind.u32 (bits BinOp.xor IntKind.u32 ((steps j y ^^^ x / 2 ^ j : Nat) : Int) ((x : Int) / 2 ^ j)) 1 = ((steps j y % 2 : Nat) : Int) := by
  have hd : x / 2 ^ j < 4294967296 := Nat.lt_of_le_of_lt (Nat.div_le_self _ _) (by omega)
  have e : ((x : Int) / 2 ^ j) = ((x / 2 ^ j : Nat) : Int) := by simp
  rw [e, u32_xor_nat _ _ (ser_lt hy hx) hd, and1_u32 _ (xor32_lt (ser_lt hy hx) hd), Nat.xor_assoc, Nat.xor_self, Nat.xor_zero]
theorem more_hit (r x j : Nat) (hy : r ^^^ x < 4294967296) (hx : x < 256) (h : (bits BinOp.and IntKind.u32 (bits BinOp.xor IntKind.u32 ((steps j (r ^^^ x) ^^^ x / 2 ^ j : Nat) : Int) ((x : Int) / 2 ^ j)) 1 == 1) = true) :
    bits BinOp.xor IntKind.u32 (((steps j (r ^^^ x) ^^^ x / 2 ^ j : Nat) : Int) / 2) 3988292384 = ((steps (j + 1) (r ^^^ x) ^^^ x / 2 ^ (j + 1) : Nat) : Int) := by
  rw [more_bit _ x j hy hx] at h
  have h1 : steps j (r ^^^ x) % 2 = 1 := by simp at h; omega
  have hb := ser_lt (j := j) hy hx
  have e : ((steps j (r ^^^ x) ^^^ x / 2 ^ j : Nat) : Int) / 2 = (((steps j (r ^^^ x) ^^^ x / 2 ^ j) / 2 : Nat) : Int) := by omega
  rw [e, xorp_u32 _ (by omega), ← serial r x j, if_pos h1]
theorem more_miss (r x j : Nat) (hy : r ^^^ x < 4294967296) (hx : x < 256) (h : (bits BinOp.and IntKind.u32 (bits BinOp.xor IntKind.u32 ((steps j (r ^^^ x) ^^^ x / 2 ^ j : Nat) : Int) ((x : Int) / 2 ^ j)) 1 == 1) = false) :
    ((steps j (r ^^^ x) ^^^ x / 2 ^ j : Nat) : Int) / 2 = ((steps (j + 1) (r ^^^ x) ^^^ x / 2 ^ (j + 1) : Nat) : Int) := by
  rw [more_bit _ x j hy hx] at h
  have h1 : ¬ steps j (r ^^^ x) % 2 = 1 := by
    intro e; rw [e] at h; simp at h
  rw [← serial r x j, if_neg h1, Nat.xor_zero]; omega

end Go.Proofs.Ytcmkpmilnplhmaa
