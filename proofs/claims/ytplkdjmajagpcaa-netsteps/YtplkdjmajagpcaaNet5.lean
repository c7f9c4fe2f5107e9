/- What a net's Flight does. -/
import Derived.Test.YtplkdjmajagpcaaNet4
import Derived.Test.YtplkdjmajagpcaaMade
namespace Go.Proofs.Ytplkdjmajagpcaa
open Go.RowKit

def Msg.cont (m : Msg) : Int × Int × List Nat := (m.fr, m.to, m.l)
/-- A message of a list that was handed out: its bytes are its own, and lie behind the list's block. -/
def Out (w : World) (g : Nat) (m : Msg) : Prop := Has w 1 (.slice m.a m.l.length m.c) m.l.length (cellsOf m.l) ∧ ∀ k, (Value.slice m.a m.l.length m.c).ownBlock = some k → g < k

theorem flight_nil (w : World) : Calls Try.prog 45 #[.pointer none] w fun e w' => ∃ a, e = .returned (.slice a 0 0) ∧ Fr (fun _ => False) w w' := by
  obtain ⟨i0, hi, hz0, hz1, hz2⟩ := info_parts info36
  have hmk := fun (w : World) => run_make (P := Try.prog) w 92 61 i0 _ Try.underlying92 hi hz0 .i64 .i64 0 0 (by omega) (by omega) (by omega) (by omega)
  go_enter Try.func45, Try.ntmps45
  go_wp2_with fail
  refine (len_nil _).mono ?_
  rintro e w1 ⟨rfl, rfl⟩
  go_wp2
  go_loopw [10] (fun i wr => i = .int .i64 0 ∧ Fr (fun _ => False) w1 wr) (fun _ _ => 0)
  case atStart => exact ⟨rfl, (Fr.refl _ _).alloc _⟩
  case round =>
    obtain ⟨rfl, hf⟩ := hrel
    go_wp2
    go_ret
    exact ⟨_, rfl, hf⟩

set_option maxHeartbeats 1000000 in
theorem flight_any (nb : Nat) (nodes : Int) (v : Value) (ms : List Msg) (w : World) (h : Net w nb nodes v ms) : Calls Try.prog 45 #[.pointer (some ⟨nb, 0, none⟩)] w fun e w' =>
    ∃ (g : Nat) (ms' : List Msg), e = .returned (.slice (some ⟨g, 0, none⟩) ms.length ms.length) ∧ Has w' 3 (.slice (some ⟨g, 0, none⟩) ms.length ms.length) ms.length (ms'.flatMap mc) ∧ ms'.map Msg.cont = ms.map Msg.cont ∧ (∀ m ∈ ms', Out w' g m) ∧ w.heap.size ≤ g ∧ Fr (fun _ => False) w w' := by
  obtain ⟨i0, hi, hz0, hz1, hz2⟩ := info_parts info36
  obtain ⟨n, hn⟩ : ∃ n, n = ms.length := ⟨_, rfl⟩
  have HN : Hid (n = ms.length) := hn
  have hn24 : n ≤ 1024 := by rw [hn]; exact h.len
  rw [← hn]
  clear hn
  go_enter Try.func45, Try.ntmps45
  go_wp2_with fail
  refine (len_any nb nodes v ms _ h).mono ?_
  rw [← HN.out]
  rintro e w1 ⟨rfl, rfl⟩
  have hmk := fun (w : World) => run_make (P := Try.prog) w 92 61 i0 _ Try.underlying92 hi hz0 .i64 .i64 n n (by omega) (by omega) (by rw [hz2]; omega) (by omega)
  simp only [hz1, Int.toNat_natCast] at hmk
  have hh2 := Has.made mc msg0 (size := 3) (by omega) (z := .agg #[.int .i64 0, .int .i64 0, .slice none 0 0]) rfl rfl n (by unfold maxLen; omega) w1 61
  have f2 : Fr (fun _ => False) w1 (w1.alloc (.cells (madeCells (Value.agg #[.int .i64 0, .int .i64 0, .slice none 0 0]).cells (n * 3)) 61)) := (Fr.refl (fun _ => False) w1).alloc _
  go_wp2_with fail
  go_loopw [10] (fun i wr => ∃ (k : Nat) (ms1 : List Msg), k ≤ n ∧ i = .int .i64 k ∧ ms1.map Msg.cont = (ms.take k).map Msg.cont ∧ (∀ m ∈ ms1, Out wr w1.heap.size m) ∧ Has wr 3 (.slice (some ⟨w1.heap.size, 0, none⟩) n n) n ((ms1 ++ List.replicate (n - k) msg0).flatMap mc) ∧ Fr (fun _ => False) w1 wr)
    (fun i _ => n - (intOf i).toNat)
  case atStart => exact ⟨0, [], (by omega), rfl, rfl, (fun m hm => by cases hm), hh2, f2⟩
  case round =>
    obtain ⟨k, ms1, hk, rfl, hc1, ho1, hrow, hf⟩ := hrel
    have hl1 : ms1.length = k := by
      have := congrArg List.length hc1
      simp only [List.length_map, List.length_take] at this
      have h2 := HN.out
      omega
    by_cases hlt : k < n
    · obtain ⟨m, hm⟩ : ∃ m, ms[k]? = some m := ⟨_, List.getElem?_eq_getElem (by rw [← HN.out]; exact hlt)⟩
      have h2 := h.same hf
      obtain ⟨g, cap, rfl, _, c0, c1, c2, hmem⟩ := h2.elem hm
      have hc := h2.cell1
      have hr := (h2.bytes m hmem).1
      have HM : Hid (ms[k]? = some m) := hm
      have hki : (k : Int) < (n : Int) := by omega
      rw [← HN.out] at hc
      obtain ⟨fm, tm, am, cm, lm⟩ := m
      simp only at c0 c1 c2 hr
      clear hm
      go_wp2_with fail
      refine (own_at fm tm am cm lm _ hr).mono ?_
      rintro e w4 ⟨a', c', rfl, ho, f4⟩
      have hrow4 := hrow.fr f4 (fun _ _ f => f)
      obtain ⟨g', cap', hv, hg4, _, _, hth, _⟩ := hrow4.form (by omega)
      simp only [Value.slice.injEq, Option.some.injEq, Addr.mk.injEq, and_true, true_and] at hv
      obtain ⟨rfl, rfl⟩ := hv
      have t0 := hth (k * 3) (by omega)
      have t1 := hth (k * 3 + 1) (by omega)
      have t2 := hth (k * 3 + 2) (by omega)
      rw [Nat.zero_add] at t0 t1 t2
      obtain ⟨t0, z0⟩ := t0
      obtain ⟨t1, z1⟩ := t1
      obtain ⟨t2, z2⟩ := t2
      obtain ⟨u0, e0⟩ := Option.isSome_iff_exists.1 t0
      obtain ⟨u1, e1⟩ := Option.isSome_iff_exists.1 t1
      obtain ⟨u2, e2⟩ := Option.isSome_iff_exists.1 t2
      clear t0 t1 t2 hth hc c0 c1 c2
      go_wp2
      go_roundw
      case rel =>
        have hG : w1.heap.size + 1 ≤ wr.heap.size := by
          obtain ⟨g', cap', hv, hg', _⟩ := hrow.form (by omega)
          simp only [Value.slice.injEq, Option.some.injEq, Addr.mk.injEq, and_true, true_and] at hv
          obtain ⟨rfl, _⟩ := hv
          omega
        have fs : Fr (fun k => k = w1.heap.size) w4 (((w4.setCell ⟨w1.heap.size, k * 3, none⟩ (.int .i64 fm)).setCell ⟨w1.heap.size, k * 3 + 1, none⟩ (.int .i64 tm)).setCell ⟨w1.heap.size, k * 3 + 2, none⟩ (.slice a' lm.length c')) :=
          (((Fr.refl (fun k => k = w1.heap.size) w4).setCell (p := ⟨w1.heap.size, k * 3, none⟩) (fun _ => rfl) _).setCell (p := ⟨w1.heap.size, k * 3 + 1, none⟩) (fun _ => rfl) _).setCell (p := ⟨w1.heap.size, k * 3 + 2, none⟩) (fun _ => rfl) _
        have hp := hrow4.put mc_length (i := k) (by simp; omega) ⟨fm, tm, a', c', lm⟩
        have hset : (ms1 ++ List.replicate (n - k) msg0).set k ⟨fm, tm, a', c', lm⟩ = (ms1 ++ [(⟨fm, tm, a', c', lm⟩ : Msg)]) ++ List.replicate (n - (k + 1)) msg0 := by
          rw [List.set_append_right _ _ (by omega), hl1, Nat.sub_self, show n - k = (n - (k + 1)) + 1 by omega, List.replicate_succ, List.set_cons_zero, List.append_assoc]; rfl
        rw [hset] at hp
        refine ⟨k + 1, ms1 ++ [(⟨fm, tm, a', c', lm⟩ : Msg)], by omega, by go_num, ?_, ?_, hp, ?_⟩
        · rw [List.take_add_one, HM.out, List.map_append, List.map_append, hc1]; rfl
        · intro m hm
          rcases List.mem_append.1 hm with h1 | h1
          · obtain ⟨q1, q2⟩ := ho1 m h1
            exact ⟨(q1.fr f4 (fun _ _ f => f)).fr fs (fun j hj e => by have := q2 j hj; omega), q2⟩
          · obtain rfl := List.mem_singleton.1 h1
            exact ⟨ho.has.fr fs (fun j hj e => by have := ho.new j hj; omega), fun j hj => by have := ho.new j hj; omega⟩
        · exact (hf.false_trans f4).above fs (fun i hi => by omega)
      case measure => simp [intOf]; omega
    · have : k = n := by omega
      subst this
      go_wp2
      go_ret
      refine ⟨w1.heap.size, ms1, rfl, by simpa using hrow, ?_, ho1, Nat.le_refl _, hf⟩
      rw [hc1, HN.out, List.take_length]
end Go.Proofs.Ytplkdjmajagpcaa
