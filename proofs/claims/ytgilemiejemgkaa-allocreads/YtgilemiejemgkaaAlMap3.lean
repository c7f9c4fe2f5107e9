
/- A new map; how many pages are in use; a map's bytes. -/
import Derived.Test.YtgilemiejemgkaaAlMap2
import Derived.Lib.SlBytesConst
namespace Go.Proofs.Ytgilemiejemgkaa
open Go.RowKit

def zeroL : List Nat := List.replicate 512 0
/-- A map's cells. -/
def mc (most : Nat) (L : List Nat) : List Value := .int .i64 most :: cellsOf L
theorem mc_length (most : Nat) (L : List Nat) (h : L.length = 512) : (mc most L).length = 513 := by simp [mc, cellsOf_length, h]
theorem zero_bits (k : Nat) : bitOf zeroL k = false := by
  unfold bitOf zeroL
  rw [List.getD_eq_getElem?_getD, List.getElem?_replicate]
  split <;> simp
theorem mp_new {w : World} {b most : Nat} {L : List Nat} (hb : w.heap[b]? = some (.cells (mc most L).toArray 50)) (hl : L.length = 512) (hL : octs L) (h1 : 1 ≤ most) (h2 : most ≤ 4096) (ht : ∀ k, most ≤ k → bitOf L k = false) : Mp w b most L := by
  refine ⟨⟨by rw [show (Value.int .i64 (most : Int) :: cellsOf L) = mc most L from rfl, mc_length _ _ hl], .inr ⟨b, 1, rfl, lt_of_block hb, Nat.le_refl _, by decide, there_block hb (by rw [List.size_toArray, mc_length _ _ hl]; omega), range_block hb (fun j v hv => ?_)⟩⟩, hl, hL, h1, h2, ht⟩
  rw [Nat.zero_add, List.getElem?_toArray]; exact hv
theorem wpList_buildM {ops : Array Oper} {rest : List Oper} {o : Oper} {a : Act} {w : World} {Q : Exit → Act → World → Prop} (hgd : o.guard = none) (x : Operand) (ho : o.op = .build 50 #[(0, x)]) (i : Nat) (hx : a.eval x = .int .i64 i)
    (h : wpList Try.prog ops Q rest (a.put o.dst (.agg (mc i zeroL).toArray)) w) : wpList Try.prog ops Q (o :: rest) a w :=
  wpList_plain hgd fun _ hK => by
    have rb : (Instr.build 50 #[(0, .int .i64 i)]).run Try.prog w = .ok (.agg (mc i zeroL).toArray) w := run_build w _ _ _ (by kernel_rfl)
    unfold Oper.wp execOp
    simp only [ho, List.map_toArray, List.map_cons, List.map_nil, hx, Sem.run_bind, rb, Result.andThen_ok]
    exact hK _ _ h
theorem anew_bad (n : Int) (h : n < 1 ∨ 4096 < n) (w : World) : Calls Try.prog 7 #[.int .i64 n] w fun e w' => e = .returned (.tuple #[.pointer none, .int .i64 1]) ∧ w' = w := by
  rcases h with h | h
  · go_enter Try.func7, Try.ntmps7
    go_wp2
    go_ret2
    exact ⟨rfl, rfl⟩
  · have h2 : 1 ≤ n := by omega
    go_enter Try.func7, Try.ntmps7
    go_wp2
    go_ret2
    exact ⟨rfl, rfl⟩
theorem anew_ok (n : Nat) (h1 : 1 ≤ n) (h2 : n ≤ 4096) (w : World) : Calls Try.prog 7 #[.int .i64 n] w fun e w' => e = .returned (.tuple #[.pointer (some ⟨w.heap.size, 0, none⟩), .int .i64 0]) ∧ Mp w' w.heap.size n zeroL ∧ Fr (fun _ => False) w w' := by
  have h1' : (1 : Int) ≤ n := by omega
  have h2' : (n : Int) ≤ 4096 := by omega
  go_enter Try.func7, Try.ntmps7
  go_wp2_with (refine wpList_buildM rfl _ rfl n rfl ?_)
  go_ret2
  have hb := heap_alloc_new w (.cells (mc n zeroL).toArray 50)
  exact ⟨rfl, mp_new hb List.length_replicate (fun x hx => by obtain ⟨_, rfl⟩ := List.mem_replicate.1 hx; omega) h1 h2 (fun k _ => zero_bits k), (Fr.refl _ _).alloc _⟩
/-- How many of the first j bits are 1. -/
def cnt (L : List Nat) (j : Nat) : Nat := (List.range j).countP (bitOf L)
theorem cnt_succ (L : List Nat) (j : Nat) : cnt L (j + 1) = cnt L j + (if bitOf L j = true then 1 else 0) := by
  unfold cnt
  rw [List.range_succ, List.countP_append, List.countP_singleton]
theorem cnt_le (L : List Nat) (j : Nat) : cnt L j ≤ j := by
  have := List.countP_le_length (p := bitOf L) (l := List.range j)
  rwa [List.length_range] at this
theorem used_nil (w : World) : Calls Try.prog 17 #[.pointer none] w fun e w' => e = .returned (.int .i64 0) ∧ w' = w := by
  go_enter Try.func17, Try.ntmps17
  go_wp2_with fail
  refine (bound_nil _).mono ?_
  rintro e w1 ⟨rfl, rfl⟩
  go_wp2
  refine wp_loop_rounds 1 ?_
  rw [rounds_succ]
  go_wp2
  go_ret
  exact ⟨rfl, rfl⟩
set_option maxRecDepth 100000 in
set_option maxHeartbeats 1000000 in
theorem used_any (b most : Nat) (L : List Nat) (w : World) (h : Mp w b most L) : Calls Try.prog 17 #[.pointer (some ⟨b, 0, none⟩)] w fun e w' => e = .returned (.int .i64 (cnt L most)) ∧ Fr (fun _ => False) w w' := by
  have htop := h.top
  go_enter Try.func17, Try.ntmps17
  go_wp2_with fail
  refine (bound_any b most L _ h).mono ?_
  rintro e w1 ⟨rfl, rfl⟩
  go_wp2
  go_loopw [3, 7] (fun u i wr => ∃ j : Nat, j ≤ most ∧ i = .int .i64 j ∧ u = .int .i64 (cnt L j) ∧ Fr (fun _ => False) w1 wr) (fun _ i _ => most - (intOf i).toNat)
  case atStart => exact ⟨0, by omega, rfl, rfl, Fr.refl _ _⟩
  case round =>
    obtain ⟨j, hj, rfl, rfl, hf⟩ := hrel
    have hcl := cnt_le L j
    by_cases hlt : j < most
    · have hjn : (j : Int) < (most : Int) := by omega
      have hh := has_bit b most L _ (h.same hf) j hlt
      have HC : Hid (cnt L (j + 1) = cnt L j + (if bitOf L j = true then 1 else 0)) := cnt_succ L j
      cases hb : bitOf L j
      · rw [hb] at hh HC
        rw [if_neg (by simp)] at HC
        clear hb
        go_wp2_with fail
        refine hh.mono ?_
        rintro e w2 ⟨rfl, f2⟩
        go_wp2
        go_roundw
        case rel => exact ⟨j + 1, by omega, by go_num, val_int (by rw [HC.out]; omega), hf.trans f2 (fun _ _ f => f)⟩
        case measure => simp [intOf]; omega
      · rw [hb] at hh HC
        rw [if_pos rfl] at HC
        clear hb
        go_wp2_with fail
        refine hh.mono ?_
        rintro e w2 ⟨rfl, f2⟩
        go_wp2
        go_roundw
        case rel => exact ⟨j + 1, by omega, by go_num, val_int (by rw [HC.out]; omega), hf.trans f2 (fun _ _ f => f)⟩
        case measure => simp [intOf]; omega
    · have e : j = most := by omega
      subst e
      go_wp2
      go_ret
      exact ⟨rfl, hf⟩
theorem has_empty (w : World) (size : Nat) (e : TypeId) : Has (w.alloc (.cells #[] e)) size (.slice (some ⟨w.heap.size, 0, none⟩) 0 0) 0 [] :=
  ⟨by simp, .inr ⟨_, _, rfl, by simp, Nat.le_refl _, by decide, (fun j hj => by omega), (fun j v hv => by cases hv)⟩⟩
theorem clone_b (b off n c : Nat) (l : List Nat) (w : World) (hr : Row w (some ⟨b, off, none⟩) c l) (hn : n = l.length) (hs : l.length ≤ 65535) : Calls Try.prog 28 #[.slice (some ⟨b, off, none⟩) n c] w fun e w' => ∃ a' c', e = .returned (.slice a' n c') ∧ Has w' 1 (.slice a' n c') n (cellsOf l) ∧ Fr (fun _ => False) w w' ∧ (∀ k, (Value.slice a' n c').ownBlock = some k → w.heap.size ≤ k) := by
  obtain ⟨i0, hi, hz0, hz1, hz2⟩ := info_parts info8
  have HE : Hid (Has (w.alloc (.cells #[] 5)) 1 (.slice (some ⟨w.heap.size, 0, none⟩) 0 0) 0 []) := has_empty w 1 _
  have f1 : Fr (fun _ => False) w (w.alloc (.cells #[] 5)) := (Fr.refl _ _).alloc _
  have hr1 := hr.same f1
  have HN : Hid (n = l.length) := hn
  have hs' : n ≤ 65535 := by omega
  clear hn hs
  have hq := fun W => Lib.run_eql_slice_nil (P := Try.prog) W 41 5 (some ⟨b, off, none⟩) n c 0 0 Try.underlying41
  go_enter Try.func28, Try.ntmps28
  go_wp2_with (at_builtin; refine wpList_append_has _ rfl _ _ 41 41 5 5 rfl i0 _ 1 1 Try.underlying41 Try.underlying41 hi hz0 hz1 hz2 rfl (by omega) (.slice (some ⟨w.heap.size, 0, none⟩) 0 0) 0 [] rfl HE.out (some ⟨b, off, none⟩) n c (cellsOf l) rfl (by rw [cellsOf_length, HN.out]; omega) hr1.from (cellsOf_oneCell l) (by unfold maxLen; omega) (by omega) ?_; intro am cm w2 hown hfr hat)
  go_ret
  rw [Nat.zero_add, List.nil_append] at hown
  rw [Nat.zero_add] at hat
  refine ⟨am, cm, rfl, hown, f1.above hfr ?_, fun k hk => ?_⟩
  · rintro i ⟨e, _⟩
    simp [Value.ownBlock] at e
    omega
  · rw [hk] at hat
    rcases hat with e | e <;> simp [Value.ownBlock] at e <;> omega
theorem bytes_nil (w : World) : Calls Try.prog 19 #[.pointer none] w fun e w' => e = .returned (.slice none 0 0) ∧ w' = w := by
  go_enter Try.func19, Try.ntmps19
  go_wp2
  go_ret
  exact ⟨rfl, rfl⟩
theorem Mp.row {w : World} {b most : Nat} {L : List Nat} (h : Mp w b most L) (n : Nat) (hn : n ≤ 512) : Row w (some ⟨b, 1, none⟩) 512 (L.take n) := by
  have hl := h.len
  refine ⟨by rw [List.length_take]; omega, by omega, by rw [List.length_take]; omega, octs_take h.byte n, .inr ⟨b, 1, rfl, h.lt, fun i hi => ?_⟩⟩
  rw [List.length_take] at hi
  rw [h.cellB i (by omega), List.getD_eq_getElem?_getD, List.getD_eq_getElem?_getD, List.getElem?_take, if_pos (by omega)]
set_option maxRecDepth 100000 in
set_option maxHeartbeats 1000000 in
theorem mbytes_any (b most : Nat) (L : List Nat) (w : World) (h : Mp w b most L) : Calls Try.prog 19 #[.pointer (some ⟨b, 0, none⟩)] w fun e w' => ∃ a' c', e = .returned (.slice a' ((most + 7) / 8) c') ∧ Row w' a' c' (L.take ((most + 7) / 8)) ∧ Fr (fun _ => False) w w' := by
  have htop := h.top
  have hl : (L.take ((most + 7) / 8)).length = (most + 7) / 8 := by have := h.len; rw [List.length_take]; omega
  have hoc := octs_take h.byte ((most + 7) / 8)
  have hnd := fun W => needed_any most htop W
  have HR : Hid (∀ W, Mp W b most L → Row W (some ⟨b, 1, none⟩) 512 (L.take ((most + 7) / 8))) := fun W hW => hW.row _ (by omega)
  have hn5 : (((most + 7) / 8 : Nat) : Int) ≤ 512 := by omega
  generalize (most + 7) / 8 = n at *
  generalize L.take n = K at *
  have HL : Hid (K.length = n) := hl
  have fr0 := (Fr.refl (fun _ => False) w).drew
  have h0 := h.same fr0
  have q0 := h0.cell0
  clear hl
  go_enter Try.func19, Try.ntmps19
  go_wp2_with fail
  go_region_held3 (fun W => W.cell? ⟨b, 0, none⟩ = some (.int .i64 most))
    (first | with_reducible exact q0 | with_reducible exact q2)
    (first
      | (go_at_call 29; refine (hnd _).mono ?_; rintro e w1 ⟨rfl, rfl⟩)
      | (go_at_call 28; refine (clone_b b 1 n 512 K _ (HR.out _ h0) HL.out.symm (by have := HL.out; omega)).mono ?_; rintro e w2 ⟨a2, c2, rfl, hh2, f2, _⟩; have q2 := (h0.same f2).cell0))
  go_wp2
  go_ret
  exact ⟨a2, c2, rfl, hh2.bytes hoc (by have := HL.out; omega), fr0.trans f2 (fun _ _ f => f)⟩
end Go.Proofs.Ytgilemiejemgkaa
