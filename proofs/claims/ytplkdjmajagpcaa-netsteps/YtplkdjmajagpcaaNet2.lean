/- What a net's put and cut do. -/
import Derived.Test.YtplkdjmajagpcaaNet1
namespace Go.Proofs.Ytplkdjmajagpcaa
open Go.RowKit

theorem info36 : (Try.prog.info? 61).map (fun i => (i.zero, i.size, i.bytes)) = some (some (.agg #[.int .i64 0, .int .i64 0, .slice none 0 0]), 3, 40) := by kernel_rfl
theorem pair_setCell {w : World} {b : Nat} {x y : Value} {t : TypeId} (h : w.heap[b]? = some (.cells #[x, y] t (0, 0))) (u : Value) : (w.setCell ⟨b, 1, none⟩ u).heap[b]? = some (.cells #[x, u] t (0, 0)) := by
  have hlt := lt_of_block h
  have : w.heap[b] = .cells #[x, y] t (0, 0) := by rw [Array.getElem?_eq_getElem hlt] at h; exact Option.some.inj h
  simp [World.setCell, Array.getElem?_modify, h]

/-- A net whose row is stored anew. -/
theorem Net.grow {w W w1 : World} {nb : Nat} {nodes : Int} {v v2 : Value} {ms ms2 : List Msg} {X : Prop} (h : Net w nb nodes v ms) (F : Fr (fun k => v.ownBlock = some k) w W) (hfr : Fr (fun k => v.ownBlock = some k ∧ X) W w1)
    (hrow : Has w1 3 v2 ms2.length (ms2.flatMap mc)) (hat : v2.ownBlock = v.ownBlock ∨ v2.ownBlock = some W.heap.size) (hlen : ms2.length ≤ 1024)
    (hmem : ∀ m ∈ ms2, (Row w m.a m.c m.l ∧ ∀ b off, m.a = some ⟨b, off, none⟩ → m.l ≠ [] → b ≠ nb ∧ v.ownBlock ≠ some b) ∧ m.l.length ≤ 65535) :
    Net (w1.setCell ⟨nb, 1, none⟩ v2) nb nodes v2 ms2 ∧ Fr (netS nb v) w (w1.setCell ⟨nb, 1, none⟩ v2) ∧ (v2.ownBlock = v.ownBlock ∨ ∃ g, v2.ownBlock = some g ∧ w.heap.size ≤ g) := by
  have hlt := lt_of_block h.box
  have F2 : Fr (fun k => v.ownBlock = some k) w w1 := F.trans hfr (fun i _ e => e.1)
  have F3 : Fr (fun k => k = nb) w1 (w1.setCell ⟨nb, 1, none⟩ v2) := (Fr.refl (fun k => k = nb) w1).setCell (p := ⟨nb, 1, none⟩) (fun _ => rfl) v2
  have hs := F.size
  have hne : v2.ownBlock ≠ some nb := by
    rcases hat with e | e
    · rw [e]; exact h.ne
    · rw [e]; simp; omega
  have F4 : Fr (netS nb v) w (w1.setCell ⟨nb, 1, none⟩ v2) := (F2.mono (T := netS nb v) (fun i _ e => .inr e)).setCell (fun _ => .inl rfl) v2
  refine ⟨⟨pair_setCell (F2.block_eq h.box h.ne) v2, hrow.fr F3 (fun k hk e => hne (by rw [hk, e])), hne, fun m hm => ?_, hlen, h.low, h.top, fun m hm => (hmem m hm).2⟩, F4, ?_⟩
  · obtain ⟨⟨hr, hf⟩, _⟩ := hmem m hm
    refine ⟨hr.fr F4 (fun b off ha hl e => ?_), fun b off ha hl => ⟨(hf b off ha hl).1, fun e => ?_⟩⟩
    · rcases e with e | e
      · exact (hf b off ha hl).1 e
      · exact (hf b off ha hl).2 e
    · rcases hat with h2 | h2
      · exact (hf b off ha hl).2 (by rw [← h2]; exact e)
      · have := hr.lt ha hl
        rw [h2] at e
        simp at e
        omega
  · rcases hat with h2 | h2
    · exact .inl h2
    · exact .inr ⟨_, h2, hs⟩

theorem put_full (m : Msg) (nb : Nat) (nodes : Int) (v : Value) (ms : List Msg) (w : World) (h : Net w nb nodes v ms) (hlen : ms.length = 1024) :
    Calls Try.prog 43 #[.pointer (some ⟨nb, 0, none⟩), .agg (mc m).toArray] w fun e w' => e = .returned (.int .i64 5) ∧ Fr (fun _ => False) w w' := by
  have h2 := h.same ((Fr.refl (fun _ => False) w).alloc (.cells #[.int .i64 m.fr, .int .i64 m.to, .slice m.a m.l.length m.c] 61))
  have hc := h2.cell1
  obtain ⟨a, c, rfl, _⟩ := h2.row.slice
  rw [hlen] at hc
  clear h2
  unfold mc
  go_enter Try.func43, Try.ntmps43
  go_wp2
  go_ret
  exact ⟨rfl, (Fr.refl (fun _ => False) w).alloc _⟩

theorem put_news (w : World) (o : Obj) (m : Msg) : From (((w.alloc o).alloc (.cells #[.int .i64 m.fr, .int .i64 m.to, .slice m.a m.l.length m.c] 61)).drew) (some ⟨w.heap.size + 1, 0, none⟩) (mc m) :=
  .inr ⟨_, _, rfl, range_block (w := ((w.alloc o).alloc _).drew) (two_second w _ _) (fun j u hu => by rw [Nat.zero_add]; simpa [mc] using hu)⟩

set_option maxRecDepth 100000 in
set_option maxHeartbeats 1000000 in
theorem put_ok (m : Msg) (nb : Nat) (nodes : Int) (v : Value) (ms : List Msg) (w : World) (h : Net w nb nodes v ms) (hlen : ms.length < 1024) (hr : Row w m.a m.c m.l) (hfar : ∀ b off, m.a = some ⟨b, off, none⟩ → m.l ≠ [] → b ≠ nb ∧ v.ownBlock ≠ some b) (hsm : m.l.length ≤ 65535) :
    Calls Try.prog 43 #[.pointer (some ⟨nb, 0, none⟩), .agg (mc m).toArray] w fun e w' => e = .returned (.int .i64 0) ∧
      ∃ v', Net w' nb nodes v' (ms ++ [m]) ∧ Fr (netS nb v) w w' ∧ (v'.ownBlock = v.ownBlock ∨ ∃ g, v'.ownBlock = some g ∧ w.heap.size ≤ g) := by
  obtain ⟨i0, hi, hz0, hz1, hz2⟩ := info_parts info36
  obtain ⟨n, hn⟩ : ∃ n, n = ms.length := ⟨_, rfl⟩
  have HN : Hid (n = ms.length) := hn
  have h2 := h.same ((Fr.refl (fun _ => False) w).alloc (.cells #[.int .i64 m.fr, .int .i64 m.to, .slice m.a m.l.length m.c] 61))
  have hc := h2.cell1
  have hlt := lt_of_block h.box
  have F : Fr (fun _ => False) w (((w.alloc (.cells #[.int .i64 m.fr, .int .i64 m.to, .slice m.a m.l.length m.c] 61)).alloc (.cells #[.int .i64 m.fr, .int .i64 m.to, .slice m.a m.l.length m.c] 61)).drew) := ((Fr.refl (fun _ => False) w).alloc _).alloc _ |>.drew
  have hrow := (h.same F).row
  have hbx := (h.same F).box
  have hne := h.ne
  rw [← hn] at hrow hlen
  have hnl : (n : Int) < 1024 := by omega
  obtain ⟨a, c, rfl, _⟩ := h2.row.slice
  rw [← hn] at hc hrow hbx hne
  clear h2 hn
  unfold mc
  go_enter Try.func43, Try.ntmps43
  go_wp2
  go_region_law
    ((refine step_append_has _ (by rfl) _ _ 92 92 61 61 (by rfl) i0 _ 3 40 Try.underlying92 Try.underlying92 hi hz0 hz1 hz2 rfl (by omega) (.slice a n c) n (ms.flatMap mc) (by rfl) hrow
        (some ⟨w.heap.size + 1, 0, none⟩) 1 1 (mc m) (by rfl) (by rfl) (put_news w _ m) (mc_one m) (by unfold maxLen; omega) (by omega) ?_; intro a' c' w1 hown hfr hat; have hb3 := hfr.block_eq hbx (fun e => hne e.1); have q3 := cell_at hb3 1; have z3 := free_at hb3 1; simp only [List.getElem?_toArray, List.getElem?_cons_zero, List.getElem?_cons_succ] at q3))
  all_goals
    go_wp2
    go_ret
    obtain rfl := HN.out
    refine ⟨rfl, _, h.grow (F.any) hfr (ms2 := ms ++ [m]) (by simpa using hown) hat (by simp; omega) (fun m' hm' => ?_)⟩
    rcases List.mem_append.1 hm' with h1 | h1
    · exact ⟨h.bytes m' h1, h.small m' h1⟩
    · obtain rfl := List.mem_singleton.1 h1
      exact ⟨⟨hr, hfar⟩, hsm⟩

/-- A slice that is cut to its first elements. -/
theorem Has.first {w : World} {size g n cap : Nat} {xs : List Value} (h : Has w size (.slice (some ⟨g, 0, none⟩) n cap) n xs) (k : Nat) (hk : k ≤ n) : Has w size (.slice (some ⟨g, 0, none⟩) k k) k (xs.take (k * size)) := by
  have hle := Nat.mul_le_mul_right size hk
  refine ⟨by rw [List.length_take, h.1]; omega, ?_⟩
  rcases h.2 with ⟨h2, _⟩ | ⟨g', cap', hv, hg, h1, h2, h3, h4⟩
  · cases h2
  · simp only [Value.slice.injEq, Option.some.injEq, Addr.mk.injEq, and_true, true_and] at hv
    obtain ⟨rfl, rfl⟩ := hv
    have hle2 := Nat.mul_le_mul_right size (Nat.le_trans hk h1)
    refine .inr ⟨g, k, rfl, hg, Nat.le_refl _, by omega, fun j hj => h3 j (by omega), fun j v hv => h4 j v ?_⟩
    rw [List.getElem?_take] at hv
    split at hv
    · exact hv
    · cases hv
theorem Has.last {w : World} {size g n cap : Nat} {xs : List Value} (h : Has w size (.slice (some ⟨g, 0, none⟩) n cap) n xs) (k : Nat) : w.rangeAt g k (xs.drop k) := by
  rcases h.2 with ⟨h2, _⟩ | ⟨g', cap', hv, hg, h1, h2, h3, h4⟩
  · cases h2
  · simp only [Value.slice.injEq, Option.some.injEq, Addr.mk.injEq, and_true, true_and] at hv
    obtain ⟨rfl, rfl⟩ := hv
    have := range_part (ys := xs.drop k) k h4 (fun j v hv => by rwa [List.getElem?_drop] at hv)
    rwa [Nat.zero_add] at this
def msg0 : Msg := ⟨0, 0, none, 0, []⟩

set_option maxRecDepth 100000 in
set_option maxHeartbeats 1000000 in
theorem cut_any (i : Nat) (nb : Nat) (nodes : Int) (v : Value) (ms : List Msg) (w : World) (h : Net w nb nodes v ms) (hi : i < ms.length) :
    Calls Try.prog 42 #[.pointer (some ⟨nb, 0, none⟩), .int .i64 i] w fun e w' => e = .returned (.tuple #[]) ∧
      ∃ v', Net w' nb nodes v' (ms.eraseIdx i) ∧ Fr (netS nb v) w w' ∧ (v'.ownBlock = v.ownBlock ∨ ∃ g, v'.ownBlock = some g ∧ w.heap.size ≤ g) := by
  obtain ⟨i0, hi0, hz0, hz1, hz2⟩ := info_parts info36
  obtain ⟨n, hn⟩ : ∃ n, n = ms.length := ⟨_, rfl⟩
  have HN : Hid (n = ms.length) := hn
  have hc := h.cell1
  have hlt := lt_of_block h.box
  have hne := h.ne
  obtain ⟨g, cap, rfl, hg, hnc, hcm, hth, hra⟩ := h.row.form (by omega)
  rw [← hn] at hc hnc hi hne
  have hgn : g ≠ nb := fun e => hne (by rw [e]; rfl)
  have t0 := hth (i * 3) (by omega)
  have t1 := hth (i * 3 + 1) (by omega)
  have t2 := hth (i * 3 + 2) (by omega)
  rw [Nat.zero_add] at t0 t1 t2
  obtain ⟨t0, f0⟩ := t0
  obtain ⟨t1, f1⟩ := t1
  obtain ⟨t2, f2⟩ := t2
  obtain ⟨u0, e0⟩ := Option.isSome_iff_exists.1 t0
  obtain ⟨u1, e1⟩ := Option.isSome_iff_exists.1 t1
  obtain ⟨u2, e2⟩ := Option.isSome_iff_exists.1 t2
  clear t0 t1 t2
  have hin : (i : Int) < n := by omega
  clear hn hth hra
  go_enter Try.func42, Try.ntmps42
  go_wp2
  have F0 : Fr (fun k => k = g) w (((w.setCell ⟨g, i * 3, none⟩ (.int .i64 0)).setCell ⟨g, i * 3 + 1, none⟩ (.int .i64 0)).setCell ⟨g, i * 3 + 2, none⟩ (.slice none 0 0)) :=
    (((Fr.refl (fun k => k = g) w).setCell (p := ⟨g, i * 3, none⟩) (fun _ => rfl) _).setCell (p := ⟨g, i * 3 + 1, none⟩) (fun _ => rfl) _).setCell (p := ⟨g, i * 3 + 2, none⟩) (fun _ => rfl) _
  have hp : Has (((w.setCell ⟨g, i * 3, none⟩ (.int .i64 0)).setCell ⟨g, i * 3 + 1, none⟩ (.int .i64 0)).setCell ⟨g, i * 3 + 2, none⟩ (.slice none 0 0)) 3 (.slice (some ⟨g, 0, none⟩) n cap) n ((ms.set i msg0).flatMap mc) := by
    have hr0 := h.row
    rw [← HN.out] at hr0
    exact hr0.put mc_length (by rw [← HN.out]; exact hi) msg0
  generalize (((w.setCell ⟨g, i * 3, none⟩ (.int .i64 0)).setCell ⟨g, i * 3 + 1, none⟩ (.int .i64 0)).setCell ⟨g, i * 3 + 2, none⟩ (.slice none 0 0)) = W at F0 hp ⊢
  have hbx : W.heap[nb]? = some (.cells #[.int .i64 nodes, .slice (some ⟨g, 0, none⟩) n cap] 94 (0, 0)) := by
    rw [HN.out]; exact F0.block_eq h.box (fun e => hgn e.symm)
  have hcW := cell_at hbx 1
  simp only [List.getElem?_toArray, List.getElem?_cons_zero, List.getElem?_cons_succ] at hcW
  have hone := hp.first i (by omega)
  have htwo := hp.last ((i + 1) * 3)
  rw [flat_take mc_length, List.take_set_of_le (Nat.le_refl _)] at hone
  rw [flat_drop mc_length, List.drop_set_of_lt (by omega)] at htwo
  have hl2 : ((ms.drop (i + 1)).flatMap mc).length = (n - (i + 1)) * 3 := by rw [flat_length mc_length, List.length_drop, HN.out]
  have hn24 : n ≤ 1024 := by rw [HN.out]; exact h.len
  clear hc e0 e1 e2 f0 f1 f2 hp
  have hic : i ≤ cap := by omega
  have hwr : IntKind.i64.wrap ((i : Int) + 1) = (i : Int) + 1 := by rw [IntKind.wrap_i64]; omega
  have h01 : (0 : Int) ≤ (i : Int) + 1 := by omega
  have hn1 : (i : Int) + 1 ≤ (n : Int) := by omega
  have hin1 : i + 1 ≤ n := hi
  obtain ⟨A, hA⟩ : ∃ A, A = (if cap = i + 1 then some (⟨g, 0, none⟩ : Addr) else some ⟨g, (i + 1) * 3, none⟩) := ⟨_, rfl⟩
  have hfrom : From W A ((ms.drop (i + 1)).flatMap mc) := by
    by_cases hcap : cap = i + 1
    · left
      rw [List.drop_of_length_le (by rw [← HN.out]; omega)]; rfl
    · rw [if_neg hcap] at hA
      exact .inr ⟨_, _, hA, htwo⟩
  have hA' := hA.symm
  clear hA
  go_region_law
      ((refine step_append_has _ (by rfl) _ _ 92 92 61 61 (by rfl) i0 _ 3 40 Try.underlying92 Try.underlying92 hi0 hz0 hz1 hz2 rfl (by omega) (.slice (some ⟨g, 0, none⟩) i i) i ((ms.take i).flatMap mc) (by rfl) (hone.fr ((Fr.refl (fun _ => False) W).drew) (fun _ _ f => f))
          A (n - (i + 1)) (cap - (i + 1)) ((ms.drop (i + 1)).flatMap mc) (by rfl) hl2 hfrom (mcs_one _) (by unfold maxLen; omega) (by omega) ?_; intro a' c' w1 hown hfr hat; have hb3 := hfr.block_eq (show W.drew.heap[nb]? = _ from hbx) (fun e => hgn (by simpa [Value.ownBlock] using e.1)); have q3 := cell_at hb3 1; have z3 := free_at hb3 1; simp only [List.getElem?_toArray, List.getElem?_cons_zero, List.getElem?_cons_succ] at q3))
  all_goals
    go_end0
    obtain rfl := HN.out
    have hle : (ms.eraseIdx i).length = i + (ms.length - (i + 1)) := by rw [List.length_eraseIdx_of_lt hi]; omega
    have heq : (ms.eraseIdx i).flatMap mc = (ms.take i).flatMap mc ++ (ms.drop (i + 1)).flatMap mc := by rw [List.eraseIdx_eq_take_drop_succ, List.flatMap_append]
    refine ⟨rfl, _, h.grow (X := 0 < ms.length - (i + 1)) ((F0.drew).mono (fun k _ e => by rw [e]; rfl)) (hfr.mono (fun k _ e => e)) (ms2 := ms.eraseIdx i) (by rw [hle, heq]; exact hown) hat (by omega) (fun m' hm' => ?_)⟩
    have h1 := List.mem_of_mem_eraseIdx hm'
    exact ⟨h.bytes m' h1, h.small m' h1⟩
end Go.Proofs.Ytplkdjmajagpcaa
