/- What a net's Send, Pick, Drop and Copy do. -/
import Derived.Test.YtplkdjmajagpcaaNet2
namespace Go.Proofs.Ytplkdjmajagpcaa
open Go.RowKit

/-- Bytes that nobody else has: they lie in a block that is new to w. -/
structure Fresh (w w' : World) (a : Option Addr) (c : Nat) (l : List Nat) : Prop where
  has : Has w' 1 (.slice a l.length c) l.length (cellsOf l)
  new : ∀ k, (Value.slice a l.length c).ownBlock = some k → w.heap.size ≤ k
theorem Fresh.far {w w' : World} {a : Option Addr} {c : Nat} {l : List Nat} (h : Fresh w w' a c l) {b off : Nat} (ha : a = some ⟨b, off, none⟩) : w.heap.size ≤ b := h.new b (by rw [ha]; rfl)
theorem Fresh.framed {S : Nat → Prop} {w w' w2 : World} {a : Option Addr} {c : Nat} {l : List Nat} (h : Fresh w w' a c l) (f : Fr S w' w2) (hS : ∀ k, S k → k < w.heap.size) : Fresh w w2 a c l :=
  ⟨h.has.fr f (fun k hk s => by have := h.new k hk; have := hS k s; omega), h.new⟩
theorem own_at (fr to : Int) (a : Option Addr) (c : Nat) (l : List Nat) (w : World) (hr : Row w a c l) : Calls Try.prog 41 #[.agg #[.int .i64 fr, .int .i64 to, .slice a l.length c]] w fun e w' => ∃ a' c', e = .returned (.agg #[.int .i64 fr, .int .i64 to, .slice a' l.length c']) ∧ Fresh w w' a' c' l ∧ Fr (fun _ => False) w w' := by
  refine (own_any ⟨fr, to, a, c, l⟩ w hr).mono ?_
  rintro e w' ⟨⟨f', t', a', c', l'⟩, rfl, ho⟩
  obtain ⟨rfl, rfl, rfl, h1, h2, h3⟩ := ho
  exact ⟨a', c', rfl, ⟨h1, h2⟩, h3⟩

section
variable (nb : Nat) (nodes : Int) (v : Value) (ms : List Msg) (w : World)

theorem send_nil (f t : Int) (x : Value) : Calls Try.prog 29 #[.pointer none, .int .i64 f, .int .i64 t, x] w fun e w' => e = .returned (.int .i64 1) ∧ w' = w := by
  go_enter Try.func29, Try.ntmps29
  go_wp2_with (refine (isNode_nil _ _).mono ?_; rintro e w' ⟨rfl, rfl⟩)
  go_ret
  exact ⟨rfl, rfl⟩
theorem send_arg (h : Net w nb nodes v ms) (f t : Int) (x : Value) (hb : (f < 0 ∨ nodes ≤ f) ∨ (t < 0 ∨ nodes ≤ t)) : Calls Try.prog 29 #[.pointer (some ⟨nb, 0, none⟩), .int .i64 f, .int .i64 t, x] w fun e w' => e = .returned (.int .i64 1) ∧ w' = w := by
  by_cases h1 : f < 0 ∨ nodes ≤ f
  · go_enter Try.func29, Try.ntmps29
    go_wp2_with (refine (isNode_no nb nodes v ms f h1 _ h).mono ?_; rintro e w' ⟨rfl, rfl⟩)
    go_ret
    exact ⟨rfl, rfl⟩
  · have h2 : t < 0 ∨ nodes ≤ t := hb.resolve_left h1
    have h3 : 0 ≤ f := by omega
    have h4 : f < nodes := by omega
    clear h1 hb
    go_enter Try.func29, Try.ntmps29
    go_wp2_with fail
    refine (isNode_yes nb nodes v ms f h3 h4 _ h).mono ?_
    rintro e w' ⟨rfl, rfl⟩
    go_wp2_with fail
    refine (isNode_no nb nodes v ms t h2 _ h).mono ?_
    rintro e w' ⟨rfl, rfl⟩
    go_wp2
    go_ret
    exact ⟨rfl, rfl⟩
theorem send_long (h : Net w nb nodes v ms) (f t : Int) (h0 : 0 ≤ f) (h1 : f < nodes) (h2 : 0 ≤ t) (h3 : t < nodes) (a : Option Addr) (n c : Nat) (hl : 65535 < n) : Calls Try.prog 29 #[.pointer (some ⟨nb, 0, none⟩), .int .i64 f, .int .i64 t, .slice a n c] w fun e w' => e = .returned (.int .i64 2) ∧ w' = w := by
  have hl' : (65535 : Int) < (n : Int) := by omega
  go_enter Try.func29, Try.ntmps29
  go_wp2_with fail
  refine (isNode_yes nb nodes v ms f h0 h1 _ h).mono ?_
  rintro e w' ⟨rfl, rfl⟩
  go_wp2_with fail
  refine (isNode_yes nb nodes v ms t h2 h3 _ h).mono ?_
  rintro e w' ⟨rfl, rfl⟩
  go_wp2
  go_ret
  exact ⟨rfl, rfl⟩
theorem send_full (h : Net w nb nodes v ms) (f t : Int) (h0 : 0 ≤ f) (h1 : f < nodes) (h2 : 0 ≤ t) (h3 : t < nodes) (a : Option Addr) (c : Nat) (l : List Nat) (hr : Row w a c l) (hl : l.length ≤ 65535) (hlen : ms.length = 1024) :
    Calls Try.prog 29 #[.pointer (some ⟨nb, 0, none⟩), .int .i64 f, .int .i64 t, .slice a l.length c] w fun e w' => e = .returned (.int .i64 5) ∧ Fr (fun _ => False) w w' := by
  have hl' : (l.length : Int) ≤ 65535 := by omega
  have HL : Hid (ms.length = 1024) := hlen
  clear hlen
  go_enter Try.func29, Try.ntmps29
  go_wp2_with fail
  refine (isNode_yes nb nodes v ms f h0 h1 _ h).mono ?_
  rintro e w' ⟨rfl, rfl⟩
  go_wp2_with fail
  refine (isNode_yes nb nodes v ms t h2 h3 _ h).mono ?_
  rintro e w' ⟨rfl, rfl⟩
  go_wp2_with fail
  refine (own_at f t a c l _ hr).mono ?_
  rintro e w1 ⟨a', c', rfl, ho, f1⟩
  go_wp2_with fail
  refine (put_full ⟨f, t, a', c', l⟩ nb nodes v ms _ (h.same f1) HL.out).mono ?_
  rintro e w2 ⟨rfl, f2⟩
  go_wp2
  go_ret
  exact ⟨rfl, f1.false_trans f2⟩
theorem send_ok (h : Net w nb nodes v ms) (f t : Int) (h0 : 0 ≤ f) (h1 : f < nodes) (h2 : 0 ≤ t) (h3 : t < nodes) (a : Option Addr) (c : Nat) (l : List Nat) (hr : Row w a c l) (hl : l.length ≤ 65535) (hlen : ms.length < 1024) :
    Calls Try.prog 29 #[.pointer (some ⟨nb, 0, none⟩), .int .i64 f, .int .i64 t, .slice a l.length c] w fun e w' => e = .returned (.int .i64 0) ∧
      ∃ v' a' c', Net w' nb nodes v' (ms ++ [⟨f, t, a', c', l⟩]) ∧ Fr (netS nb v) w w' ∧ (v'.ownBlock = v.ownBlock ∨ ∃ g, v'.ownBlock = some g ∧ w.heap.size ≤ g) ∧ (∀ b off, a' = some ⟨b, off, none⟩ → w.heap.size ≤ b) := by
  have hl' : (l.length : Int) ≤ 65535 := by omega
  have HL : Hid (ms.length < 1024) := hlen
  clear hlen
  go_enter Try.func29, Try.ntmps29
  go_wp2_with fail
  refine (isNode_yes nb nodes v ms f h0 h1 _ h).mono ?_
  rintro e w' ⟨rfl, rfl⟩
  go_wp2_with fail
  refine (isNode_yes nb nodes v ms t h2 h3 _ h).mono ?_
  rintro e w' ⟨rfl, rfl⟩
  go_wp2_with fail
  refine (own_at f t a c l _ hr).mono ?_
  rintro e w1 ⟨a', c', rfl, ho, f1⟩
  have z1 := f1.size
  go_wp2_with fail
  refine (put_ok ⟨f, t, a', c', l⟩ nb nodes v ms _ (h.same f1) HL.out (ho.has.bytes hr.byte (by omega)) (fun b off ha _ => ⟨fun e => ?_, fun e => ?_⟩) hl).mono ?_
  · have := ho.far ha; have := lt_of_block h.box; omega
  · have := ho.far ha; have := h.row.lt e; omega
  rintro e w2 ⟨rfl, v', n2, f2, o2⟩
  go_wp2
  go_ret
  refine ⟨rfl, v', a', c', n2, f1.any.trans f2 (fun _ _ s => s), ?_, fun b off ha => ho.far ha⟩
  rcases o2 with e | ⟨g, e, hge⟩
  · exact .inl e
  · exact .inr ⟨g, e, by omega⟩
theorem drop_nil (i : Int) : Calls Try.prog 26 #[.pointer none, .int .i64 i] w fun e w' => e = .returned (.int .i64 6) ∧ w' = w := by
  go_enter Try.func26, Try.ntmps26
  go_wp2_with (refine (has_nil _ _).mono ?_; rintro e w' ⟨rfl, rfl⟩)
  go_ret
  exact ⟨rfl, rfl⟩
theorem drop_no (h : Net w nb nodes v ms) (i : Int) (hi : i < 0 ∨ (ms.length : Int) ≤ i) : Calls Try.prog 26 #[.pointer (some ⟨nb, 0, none⟩), .int .i64 i] w fun e w' => e = .returned (.int .i64 6) ∧ w' = w := by
  have HI : Hid (i < 0 ∨ (ms.length : Int) ≤ i) := hi
  clear hi
  go_enter Try.func26, Try.ntmps26
  go_wp2_with (refine (has_no nb nodes v ms i HI.out _ h).mono ?_; rintro e w' ⟨rfl, rfl⟩)
  go_ret
  exact ⟨rfl, rfl⟩
theorem drop_ok (h : Net w nb nodes v ms) (i : Nat) (hi : i < ms.length) : Calls Try.prog 26 #[.pointer (some ⟨nb, 0, none⟩), .int .i64 i] w fun e w' => e = .returned (.int .i64 0) ∧
      ∃ v', Net w' nb nodes v' (ms.eraseIdx i) ∧ Fr (netS nb v) w w' ∧ (v'.ownBlock = v.ownBlock ∨ ∃ g, v'.ownBlock = some g ∧ w.heap.size ≤ g) := by
  have HI : Hid (i < ms.length) := hi
  clear hi
  go_enter Try.func26, Try.ntmps26
  go_wp2_with fail
  refine (has_yes nb nodes v ms i HI.out _ h).mono ?_
  rintro e w' ⟨rfl, rfl⟩
  go_wp2_with fail
  refine (cut_any i nb nodes v ms _ h HI.out).mono ?_
  rintro e w2 ⟨rfl, hq⟩
  go_wp2
  go_ret
  exact ⟨rfl, hq⟩
theorem copy_nil (i : Int) : Calls Try.prog 27 #[.pointer none, .int .i64 i] w fun e w' => e = .returned (.int .i64 6) ∧ w' = w := by
  go_enter Try.func27, Try.ntmps27
  go_wp2_with (refine (has_nil _ _).mono ?_; rintro e w' ⟨rfl, rfl⟩)
  go_ret
  exact ⟨rfl, rfl⟩
theorem copy_no (h : Net w nb nodes v ms) (i : Int) (hi : i < 0 ∨ (ms.length : Int) ≤ i) : Calls Try.prog 27 #[.pointer (some ⟨nb, 0, none⟩), .int .i64 i] w fun e w' => e = .returned (.int .i64 6) ∧ w' = w := by
  have HI : Hid (i < 0 ∨ (ms.length : Int) ≤ i) := hi
  clear hi
  go_enter Try.func27, Try.ntmps27
  go_wp2_with (refine (has_no nb nodes v ms i HI.out _ h).mono ?_; rintro e w' ⟨rfl, rfl⟩)
  go_ret
  exact ⟨rfl, rfl⟩

/-- Where a message of the row lies. -/
theorem Net.elem {w : World} {nb : Nat} {nodes : Int} {v : Value} {ms : List Msg} (h : Net w nb nodes v ms) {i : Nat} {m : Msg} (hm : ms[i]? = some m) : ∃ g cap, v = .slice (some ⟨g, 0, none⟩) ms.length cap ∧ i < ms.length ∧
    w.cell? ⟨g, i * 3, none⟩ = some (.int .i64 m.fr) ∧ w.cell? ⟨g, i * 3 + 1, none⟩ = some (.int .i64 m.to) ∧ w.cell? ⟨g, i * 3 + 2, none⟩ = some (.slice m.a m.l.length m.c) ∧ m ∈ ms := by
  obtain ⟨hi, _⟩ := List.getElem?_eq_some_iff.1 hm
  obtain ⟨g, cap, rfl, _⟩ := h.row.form (by omega)
  have he := h.row.elem mc_length hm
  exact ⟨g, cap, rfl, hi, he 0 _ rfl, he 1 _ rfl, he 2 _ rfl, List.mem_of_getElem? hm⟩

theorem copy_full (h : Net w nb nodes v ms) (i : Nat) (m : Msg) (hm : ms[i]? = some m) (hlen : ms.length = 1024) : Calls Try.prog 27 #[.pointer (some ⟨nb, 0, none⟩), .int .i64 i] w fun e w' => e = .returned (.int .i64 5) ∧ Fr (fun _ => False) w w' := by
  obtain ⟨g, cap, rfl, hi, c0, c1, c2, _⟩ := h.elem hm
  have hc := h.cell1
  have HI : Hid (i < ms.length) := hi
  have HL : Hid (ms.length = 1024) := hlen
  have hi2 : (i : Int) < (ms.length : Int) := by omega
  clear hi hlen
  go_enter Try.func27, Try.ntmps27
  go_wp2_with fail
  refine (has_yes nb nodes _ ms i HI.out _ h).mono ?_
  rintro e w' ⟨rfl, rfl⟩
  go_wp2_with fail
  refine (put_full m nb nodes _ ms _ h HL.out).mono ?_
  rintro e w2 ⟨rfl, f2⟩
  go_wp2
  go_ret
  exact ⟨rfl, f2⟩
theorem copy_ok (h : Net w nb nodes v ms) (i : Nat) (m : Msg) (hm : ms[i]? = some m) (hlen : ms.length < 1024) : Calls Try.prog 27 #[.pointer (some ⟨nb, 0, none⟩), .int .i64 i] w fun e w' => e = .returned (.int .i64 0) ∧
      ∃ v', Net w' nb nodes v' (ms ++ [m]) ∧ Fr (netS nb v) w w' ∧ (v'.ownBlock = v.ownBlock ∨ ∃ g, v'.ownBlock = some g ∧ w.heap.size ≤ g) := by
  obtain ⟨g, cap, rfl, hi, c0, c1, c2, hmem⟩ := h.elem hm
  have hc := h.cell1
  have HI : Hid (i < ms.length) := hi
  have HL : Hid (ms.length < 1024) := hlen
  have hi2 : (i : Int) < (ms.length : Int) := by omega
  clear hi hlen
  go_enter Try.func27, Try.ntmps27
  go_wp2_with fail
  refine (has_yes nb nodes _ ms i HI.out _ h).mono ?_
  rintro e w' ⟨rfl, rfl⟩
  go_wp2_with fail
  refine (put_ok m nb nodes _ ms _ h HL.out (h.bytes m hmem).1 (h.bytes m hmem).2 (h.small m hmem)).mono ?_
  rintro e w2 ⟨rfl, hq⟩
  go_wp2
  go_ret
  exact ⟨rfl, hq⟩
end
end Go.Proofs.Ytplkdjmajagpcaa
