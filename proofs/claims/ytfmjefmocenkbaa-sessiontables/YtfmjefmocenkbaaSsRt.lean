
/- The document's table of requests in memory. -/
import Derived.Test.YtfmjefmocenkbaaSsOnce
namespace Go.Proofs.Ytfmjefmocenkbaa
open Go.RowKit

/-- Requests as cells. -/
def wtC (L : Wt) : List Value := L.flatMap fun p => [zI p.1, zI p.2]
theorem wtC_len (L : Wt) : (wtC L).length = L.length * 2 := by
  induction L with
  | nil => rfl
  | cons p t ih => rw [wtC, List.flatMap_cons] at *; simp [ih]; omega
theorem wtC_snoc (L : Wt) (p : Int × Int) : wtC (L ++ [p]) = wtC L ++ [zI p.1, zI p.2] := by simp [wtC]
theorem wtC_get {L : Wt} {i : Nat} {p : Int × Int} (h : L[i]? = some p) : (wtC L)[i * 2]? = some (zI p.1) ∧ (wtC L)[i * 2 + 1]? = some (zI p.2) := by
  induction L generalizing i with
  | nil => cases h
  | cons q t ih =>
    cases i with
    | zero => simp at h; subst h; exact ⟨rfl, rfl⟩
    | succ i =>
      have := ih (i := i) (by simpa using h)
      rw [show wtC (q :: t) = zI q.1 :: zI q.2 :: wtC t from rfl, show (i + 1) * 2 = i * 2 + 1 + 1 by omega]
      exact this
theorem wt_cell {w : World} {a : Option Addr} {c : Nat} {L : Wt} (h : Has w 2 (.slice a L.length c) L.length (wtC L)) (hn : 0 < L.length) : ∃ b, a = some ⟨b, 0, none⟩ ∧ ∀ (i : Nat) p, L[i]? = some p → w.cell? ⟨b, i * 2, none⟩ = some (.int .i64 p.1) ∧ w.cell? ⟨b, i * 2 + 1, none⟩ = some (.int .i64 p.2) := by
  obtain ⟨g, cap, hv, _, _, _, _, h4⟩ := h.form hn
  simp only [Value.slice.injEq] at hv
  obtain ⟨rfl, _, rfl⟩ := hv
  refine ⟨g, rfl, fun i p hx => ?_⟩
  have h5 := h4 (i * 2) _ (wtC_get hx).1
  have h6 := h4 (i * 2 + 1) _ (wtC_get hx).2
  rw [Nat.zero_add] at h5 h6
  exact ⟨h5, h6⟩
theorem wt_bound {w : World} {a : Option Addr} {c n : Nat} {xs : List Value} (h : Has w 2 (.slice a n c) n xs) : n ≤ c ∧ c ≤ 9223372036854775807 := by
  obtain ⟨a', c', hv, h1, h2⟩ := h.slice
  simp only [Value.slice.injEq] at hv
  obtain ⟨_, _, rfl⟩ := hv
  unfold maxLen at h2
  omega
theorem infoW : (Try.prog.info? 64).map (fun i => (i.zero, i.size, i.bytes)) = some (some (.agg #[.int .i64 0, .int .i64 0]), 2, 16) := by kernel_rfl
theorem app_wt {w : World} {v : Value} {L : Wt} (p : Int × Int) (h : Has w 2 v L.length (wtC L)) (hl : L.length + 1 ≤ 1000000) :
    ∃ a' c' w', (Builtin.append_ #[26, 26] 26 #[v, .slice (some ⟨w.heap.size, 0, none⟩) 1 1]).run Try.prog (w.alloc (.cells #[.int .i64 p.1, .int .i64 p.2] 64)) = .ok (.slice a' (L.length + 1) c') w' ∧ Has w' 2 (.slice a' (L.length + 1) c') (L ++ [p]).length (wtC (L ++ [p])) ∧ Fr (fun k => v.ownBlock = some k) w w' ∧ ((Value.slice a' (L.length + 1) c').ownBlock = v.ownBlock ∨ (Value.slice a' (L.length + 1) c').ownBlock = some (w.heap.size + 1)) := by
  obtain ⟨i, hi, hi1, hi2, hi3⟩ : ∃ i, Try.prog.info? 64 = some i ∧ i.zero = some (.agg #[.int .i64 0, .int .i64 0]) ∧ i.size = 2 ∧ i.bytes = 16 := by
    have := infoW
    cases hh : Try.prog.info? 64 with
    | none => rw [hh] at this; cases this
    | some i =>
      rw [hh] at this
      simp only [Option.map_some, Option.some.injEq, Prod.mk.injEq] at this
      exact ⟨i, rfl, this.1, this.2.1, this.2.2⟩
  have fb := Fr.box w (.cells #[.int .i64 p.1, .int .i64 p.2] 64)
  have T := Two.new w 64 (.int .i64 p.1) (.int .i64 p.2)
  obtain ⟨c0, c1, _⟩ := T.cells
  have h' := h.fr fb (fun _ _ f => f)
  obtain ⟨v', w', hrun, h2, h3, h4⟩ := run_append_has (P := Try.prog) (w.alloc (.cells #[.int .i64 p.1, .int .i64 p.2] 64)) 26 26 26 64 64 i (.agg #[.int .i64 0, .int .i64 0]) 2 16 Try.underlying26 Try.underlying26 hi hi1 hi2 hi3 rfl (by omega) v L.length (wtC L) h' (some ⟨w.heap.size, 0, none⟩) 1 1 [.int .i64 p.1, .int .i64 p.2] rfl
    (.inr ⟨w.heap.size, 0, rfl, fun j u hu => by
      match j, hu with
      | 0, hu => simp at hu; subst hu; exact c0
      | 1, hu => simp at hu; subst hu; exact c1
      | (j + 2), hu => simp at hu⟩) (fun u hu => by simp at hu; rcases hu with rfl | rfl <;> rfl) (by unfold maxLen; omega) (by omega)
  obtain ⟨a', c', rfl, _⟩ := h2.slice
  refine ⟨a', c', w', hrun, ?_, (fb.mono (T := fun k => v.ownBlock = some k) (fun i hi e => e.elim)).trans h3 (fun i hi e => e.1), ?_⟩
  · rw [wtC_snoc, show [zI p.1, zI p.2] = [Value.int .i64 p.1, .int .i64 p.2] from rfl]
    simpa using h2
  · rcases h4 with e | e
    · exact .inl e
    · right; rw [e]; simp
/-- The document's table at block b, whose own blocks are R. -/
structure Rt (w : World) (R : Nat → Prop) (b : Nat) (L : Wt) (D : List Int) (la : Option Addr) (lc : Nat) (da : Option Addr) (dc : Nat) : Prop where
  own : R b
  lt : ∀ i, R i → i < w.heap.size
  two : Two w b 29 (.slice la L.length lc) (.slice da D.length dc)
  hl : Has w 2 (.slice la L.length lc) L.length (wtC L)
  hd : Has w 1 (.slice da D.length dc) D.length (D.map zI)
  ol : ∀ g, (Value.slice la L.length lc).ownBlock = some g → R g ∧ g ≠ b
  od : ∀ g, (Value.slice da D.length dc).ownBlock = some g → R g ∧ g ≠ b ∧ (Value.slice la L.length lc).ownBlock ≠ some g
variable {w wr w' : World} {R T : Nat → Prop} {b : Nat} {L : Wt} {D : List Int} {la da : Option Addr} {lc dc : Nat}
theorem Rt.fr (h : Rt w R b L D la lc da dc) (f : Fr T w w') (hd : ∀ i, R i → ¬ T i) : Rt w' R b L D la lc da dc :=
  ⟨h.own, fun i hi => Nat.lt_of_lt_of_le (h.lt i hi) f.size, h.two.fr f (hd b h.own), h.hl.fr f (fun g hg => hd g (h.ol g hg).1), h.hd.fr f (fun g hg => hd g (h.od g hg).1), h.ol, h.od⟩
theorem Rt.same (h : Rt w R b L D la lc da dc) (f : Fr (fun _ => False) w w') : Rt w' R b L D la lc da dc := h.fr f (fun _ _ f => f)
theorem Rt.new (w : World) : Rt (w.alloc (.cells #[.slice none 0 0, .slice none 0 0] 29)) (fun i => i = w.heap.size) w.heap.size [] [] none 0 none 0 :=
  ⟨rfl, (fun i hi => by subst hi; simp), Two.new _ _ _ _, Has.nil _ _, Has.nil _ _, (fun g h => by cases h), (fun g h => by cases h)⟩
def rstN (L : Wt) (D : List Int) (x : Int) : Int := if x ∈ D then 2 else if (lk L x).isSome = true then 1 else 0
theorem rstN_eq (hd : ∀ p ∈ L, p.1 ∉ D) (x : Int) : rstN L D x = stN L D x := by
  unfold rstN stN
  cases hl : lk L x with
  | none => simp
  | some l => have := hd _ (lk_mem hl); simp only at this; simp [this]
theorem lk_snoc {A : Wt} {q : Int × Int} {x : Int} (h : lk A x = none) : lk (A ++ [q]) x = if x = q.1 then some q.2 else none := by
  induction A with
  | nil => simp [lk]
  | cons p t ih =>
    simp only [lk] at h
    by_cases e : x = p.1
    · rw [if_pos e] at h; cases h
    · rw [if_neg e] at h
      simp only [List.cons_append, lk, if_neg e]
      exact ih h
theorem lk_pre {A B : Wt} {x l : Int} (h : lk A x = some l) : lk (A ++ B) x = some l := by
  induction A with
  | nil => cases h
  | cons p t ih =>
    simp only [lk, List.cons_append] at *
    by_cases e : x = p.1
    · rw [if_pos e] at h ⊢; exact h
    · rw [if_neg e] at h ⊢; exact ih h
set_option maxRecDepth 100000 in
set_option maxHeartbeats 4000000 in
theorem rstate_any (x : Int) (h : Rt w R b L D la lc da dc) : Calls Try.prog 17 #[.pointer (some ⟨b, 0, none⟩), .int .i64 x] w fun e w' => e = .returned (.int .i64 (rstN L D x)) ∧ Fr (fun _ => False) w w' := by
  obtain ⟨x0, x1, _⟩ := h.two.cells
  have bl := wt_bound h.hl
  have bd := has_bound h.hd
  have bl1 := bl.1
  have bl2 := bl.2
  have bd1 := bd.1
  have bd2 := bd.2
  have HD : Hid (Has w 1 (.slice da D.length dc) D.length (D.map zI)) := h.hd
  have HL : Hid (∀ W, Fr (fun _ => False) w W → Has W 2 (.slice la L.length lc) L.length (wtC L)) := fun W f => h.hl.fr f (fun _ _ f => f)
  have HX : Hid (∀ W, Fr (fun _ => False) w W → W.cell? ⟨b, 0, none⟩ = some (.slice la L.length lc)) := fun W f => (h.two.fr f (fun f => f)).cells.1
  clear h bl bd
  obtain ⟨rs, hrs⟩ : ∃ rs, rs = rstN L D x := ⟨_, rfl⟩
  rw [← hrs]
  have HRS : Hid (rstN L D x = rs) := hrs.symm
  clear hrs
  go_enter Try.func17, Try.ntmps17
  go_wp2
  go_loopw [14] (fun i wz => ∃ k : Nat, k ≤ D.length ∧ i = .int .i64 k ∧ Hid (x ∉ D.take k) ∧ w = wz) (fun i _ => D.length - (intOf i).toNat)
  case atStart => exact ⟨0, by omega, rfl, by show x ∉ _; simp, rfl⟩
  case round =>
    obtain ⟨k, hk, rfl, HN, rfl⟩ := hrel
    by_cases hlt : k < D.length
    · obtain ⟨y, hy⟩ : ∃ y, D[k]? = some y := ⟨_, List.getElem?_eq_getElem hlt⟩
      obtain ⟨bd, rfl, hcd⟩ := has_cell HD.out (by omega)
      have cy := hcd k y hy
      have k1 : (k : Int) < (D.length : Int) := by omega
      by_cases e : y = x
      · have HE : Hid (rs = 2) := by show rs = 2; rw [← HRS.out]; simp [rstN, ← e, List.mem_of_getElem? hy]
        subst e
        clear hcd hy
        go_wp2
        go_ret
        exact ⟨ret_int HE.out.symm, Fr.refl _ _⟩
      · have e' : (y == x) = false := by simpa using e
        have HN2 : Hid (x ∉ D.take (k + 1)) := by
          show x ∉ _
          rw [List.take_add_one, hy]
          intro hm
          rcases List.mem_append.1 hm with hm | hm
          · exact HN.out hm
          · simp at hm; exact e hm.symm
        clear hcd hy HN
        go_wp2
        go_roundw
        case rel => exact ⟨k + 1, by omega, by go_num, HN2, trivial⟩
        case measure => simp [intOf]; omega
    · have hND : x ∉ D := by have := HN.out; rwa [List.take_of_length_le (by omega)] at this
      have HND : Hid (x ∉ D) := hND
      clear hND HN
      go_wp2
      go_loopw [27] (fun i wz => ∃ k : Nat, k ≤ L.length ∧ i = .int .i64 k ∧ Hid (lk (L.take k) x = none) ∧ Hid (Fr (fun _ => False) w wz)) (fun i _ => L.length - (intOf i).toNat)
      case atStart => exact ⟨0, by omega, rfl, rfl, Fr.refl _ _⟩
      case round =>
        obtain ⟨m, hm, rfl, HN, HF⟩ := hrel
        by_cases hlm : m < L.length
        · obtain ⟨q, hq⟩ : ∃ q, L[m]? = some q := ⟨_, List.getElem?_eq_getElem hlm⟩
          obtain ⟨bl, rfl, hcl⟩ := wt_cell (HL.out _ HF.out) (by omega)
          obtain ⟨cq1, cq2⟩ := hcl m q hq
          have m1 : (m : Int) < (L.length : Int) := by omega
          have htk : L.take (m + 1) = L.take m ++ [q] := by rw [List.take_add_one, hq]; rfl
          obtain ⟨q1, q2⟩ := q
          dsimp only at cq1 cq2
          have T := Two.new wr 64 (.int .i64 q1) (.int .i64 q2)
          obtain ⟨t0, t1, _⟩ := T.cells
          have HF2 : Hid (Fr (fun _ => False) w (wr.alloc (.cells #[.int .i64 q1, .int .i64 q2] 64))) := HF.out.seq' (Fr.box _ _)
          by_cases e : q1 = x
          · have HE : Hid (rs = 1) := by
              show rs = 1
              have h1 : lk (L.take (m + 1)) x = some q2 := by rw [htk, lk_snoc HN.out, if_pos e.symm]
              have h2 : lk L x = some q2 := by rw [← List.take_append_drop (m + 1) L]; exact lk_pre h1
              rw [← HRS.out]
              simp [rstN, HND.out, h2]
            subst e
            clear hcl hq T HN htk
            go_wp2
            go_ret
            exact ⟨ret_int HE.out.symm, HF2.out⟩
          · have e' : (q1 == x) = false := by simpa using e
            have HN2 : Hid (lk (L.take (m + 1)) x = none) := by
              show _ = _
              rw [htk, lk_snoc HN.out, if_neg (fun h => e h.symm)]
            clear hcl hq T HN htk
            go_wp2
            go_roundw
            case rel => exact ⟨m + 1, by omega, by go_num, HN2, HF2⟩
            case measure => simp [intOf]; omega
        · have HE : Hid (rs = 0) := by
            have hn := HN.out
            rw [List.take_of_length_le (by omega)] at hn
            show rs = 0
            rw [← HRS.out]
            simp [rstN, HND.out, hn]
          clear HN
          go_wp2
          go_ret
          exact ⟨ret_int HE.out.symm, HF.out⟩
end Go.Proofs.Ytfmjefmocenkbaa
