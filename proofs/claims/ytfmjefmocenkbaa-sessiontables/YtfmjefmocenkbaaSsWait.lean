
/- A request that waits. -/
import Derived.Test.YtfmjefmocenkbaaSsTab
namespace Go.Proofs.Ytfmjefmocenkbaa
open Go.RowKit

/-- What Wait tells. -/
def waE (L : Wt) (D : List Int) (r l : Int) : Int := if (rng r && rng l) = true then (if stN L D r = 0 then (if L.length = 1024 then 5 else 0) else 7) else 1
def waL (L : Wt) (D : List Int) (r l : Int) : Wt := if waE L D r l = 0 then ins (r, l) L else L
theorem inB_rng (x : Int) : inB x 1 1099511627776 = rng x := rfl
set_option maxRecDepth 100000 in
set_option maxHeartbeats 1000000 in
theorem wait_nil (r l : Int) (w : World) : Calls Try.prog 9 #[.pointer none, .int .i64 r, .int .i64 l] w fun e w' => e = .returned (.int .i64 (if (rng r && rng l) = true then 5 else 1)) ∧ w' = w := by
  have h3 := state_nil r w
  cases e1 : inB r 1 1099511627776 with
  | false =>
    clear h3
    rw [show (if (rng r && rng l) = true then (5 : Int) else 1) = 1 from if_neg (by rw [show rng r = false from e1]; simp)]
    go_enter Try.func9, Try.ntmps9
    go_wp2_with (go_at_call 26; refine (within_any _ _ _ _).mono ?_; rintro e w' ⟨rfl, rfl⟩)
    go_ret
    exact ⟨rfl, rfl⟩
  | true =>
    cases e2 : inB l 1 1099511627776 with
    | false =>
      clear h3
      rw [show (if (rng r && rng l) = true then (5 : Int) else 1) = 1 from if_neg (by rw [show rng l = false from e2]; simp)]
      go_enter Try.func9, Try.ntmps9
      go_wp2_with (go_at_call 26; refine (within_any _ _ _ _).mono ?_; rintro e w' ⟨rfl, rfl⟩)
      go_ret
      exact ⟨rfl, rfl⟩
    | true =>
      rw [show (if (rng r && rng l) = true then (5 : Int) else 1) = 5 from if_pos (by rw [show rng r = true from e1, show rng l = true from e2]; rfl)]
      go_enter Try.func9, Try.ntmps9
      go_wp2_with (first | (go_at_call 26; refine (within_any _ _ _ _).mono ?_; rintro e w' ⟨rfl, rfl⟩) | (go_at_call 16; refine h3.mono ?_; rintro e w' ⟨rfl, rfl⟩))
      go_ret
      exact ⟨rfl, rfl⟩
theorem vupd_w {L : Wt} (h : Ok L) {r l : Int} (hn : lk L r = none) (hr : rng r = true ∧ rng l = true) : vupd (wMap L) r (some (.int .i64 l)) = wMap (ins (r, l) L) := by
  funext x
  unfold vupd wMap
  rw [lk_ins h (p := (r, l)) hn hr x]
  by_cases e : x = r <;> simp [e, zI]
/-- What became of a table. -/
def WaO (w : World) (S : Nat → Prop) (b : Nat) (L : Wt) (D : List Int) (r l : Int) (w' : World) : Prop := ∃ S' : Nat → Prop, (∀ i, S' i → S i ∨ w.heap.size ≤ i) ∧ Tb w' S' b (waL L D r l) D ∧ Fr S w w'
theorem WaO.no {w w' : World} {S : Nat → Prop} {b : Nat} {L : Wt} {D : List Int} {r l : Int} (h : Tb w S b L D) (he : waE L D r l ≠ 0) (f : Fr (fun _ => False) w w') : WaO w S b L D r l w' :=
  ⟨S, fun _ h => .inl h, by rw [show waL L D r l = L from if_neg he]; exact h.same f, f.mono (fun _ _ f => f.elim)⟩
set_option maxRecDepth 100000 in
set_option maxHeartbeats 4000000 in
theorem wait_any {S : Nat → Prop} {b : Nat} {L : Wt} {D : List Int} (r l : Int) (w : World) (h : Tb w S b L D) (hL : L.length ≤ 1024) : Calls Try.prog 9 #[.pointer (some ⟨b, 0, none⟩), .int .i64 r, .int .i64 l] w fun e w' => e = .returned (.int .i64 (waE L D r l)) ∧ WaO w S b L D r l w' := by
  cases e1 : inB r 1 1099511627776 with
  | false =>
    have hE : waE L D r l = 1 := by simp [waE, show rng r = false from e1]
    have HK : Hid (WaO w S b L D r l w) := WaO.no h (by omega) (Fr.refl _ _)
    rw [hE]
    clear h hE
    go_enter Try.func9, Try.ntmps9
    go_wp2_with (go_at_call 26; refine (within_any _ _ _ _).mono ?_; rintro e w' ⟨rfl, rfl⟩)
    go_ret
    exact ⟨rfl, HK.out⟩
  | true =>
    cases e2 : inB l 1 1099511627776 with
    | false =>
      have hE : waE L D r l = 1 := by simp [waE, show rng l = false from e2]
      have HK : Hid (WaO w S b L D r l w) := WaO.no h (by omega) (Fr.refl _ _)
      rw [hE]
      clear h hE
      go_enter Try.func9, Try.ntmps9
      go_wp2_with (go_at_call 26; refine (within_any _ _ _ _).mono ?_; rintro e w' ⟨rfl, rfl⟩)
      go_ret
      exact ⟨rfl, HK.out⟩
    | true =>
      have h3 := state_any r (rng_wf e1) w h
      by_cases hs : stN L D r = 0
      · rw [hs] at h3
        have hlk : lk L r = none := by
          unfold stN at hs
          cases hl : lk L r with
          | none => rfl
          | some v => rw [hl] at hs; simp at hs
        have hnd : r ∉ D := by
          intro hd
          unfold stN at hs
          rw [hlk] at hs
          simp [hd] at hs
        by_cases hf : L.length = 1024
        · have hE : waE L D r l = 5 := by simp [waE, show rng r = true from e1, show rng l = true from e2, hs, hf]
          have HK : Hid (∀ w', Fr (fun _ => False) w w' → WaO w S b L D r l w') := fun w' f => WaO.no h (by omega) f
          rw [hE]
          have HT : Hid (Tb w S b L D) := h
          have HF : Hid (L.length = 1024) := hf
          clear hE hs hf h
          go_enter Try.func9, Try.ntmps9
          go_wp2_with (go_at_call 26; refine (within_any _ _ _ _).mono ?_; rintro e w' ⟨rfl, rfl⟩)
          refine h3.mono ?_
          rintro e w1 ⟨rfl, f1⟩
          clear h3
          rcases (HT.out.same f1).at_ with ⟨_, h0, _⟩ | ⟨m, d, nd, _, _, _, _, _, k1, k2, _⟩
          · have := HF.out; rw [h0] at this; simp at this
          · obtain ⟨x0, x1, _⟩ := k1.cells
            have e1 := fun ty => k2.len Try.underlying58 ty
            rw [HF.out] at e1
            clear k1 k2
            go_wp2
            go_ret
            exact ⟨rfl, HK.out _ f1⟩
        · have hE : waE L D r l = 0 := by simp [waE, show rng r = true from e1, show rng l = true from e2, hs, hf]
          rw [hE]
          have HT : Hid (Tb w S b L D) := h
          have HLK : Hid (lk L r = none) := hlk
          have HR : Hid (rng r = true ∧ rng l = true) := ⟨e1, e2⟩
          have HWL : Hid (waL L D r l = ins (r, l) L) := if_pos hE
          have HL : Hid (L.length ≤ 1024 ∧ L.length ≠ 1024) := ⟨hL, hf⟩
          have HND : Hid (r ∉ D) := hnd
          clear hE hs hf h hlk hL hnd
          go_enter Try.func9, Try.ntmps9
          go_wp2_with (go_at_call 26; refine (within_any _ _ _ _).mono ?_; rintro e w' ⟨rfl, rfl⟩)
          refine h3.mono ?_
          rintro e w1 ⟨rfl, f1⟩
          clear h3
          have HT1 : Hid (Tb w1 S b L D) := HT.out.same f1
          rcases HT1.out.at_ with ⟨k1, h0, hD⟩ | ⟨m, d, nd, sm, sd, n1, n2, n3, k1, k2, k3, k4⟩
          · obtain ⟨x0, x1, x2, x3⟩ := k1.cells
            have e1 := fun ty => Maps.len_nil (P := Try.prog) (w := w1) Try.underlying58 ty
            have hbl := k1.lt
            have hmm := @run_makeMap Try.prog
            have qT : ∀ W : World, (binOp .eql 58 (.map none) (.map none)).run Try.prog W = .ok (.bool true) W := fun W => run_eql_map_nil W _ _ _ none Try.underlying58
            obtain ⟨T2, F2⟩ := Two.fin k1 (.map (some w1.heap.size)) (.map (some (w1.heap.size + 1)))
            have hV : ((w1.setCell ⟨b, 0, none⟩ (.map (some w1.heap.size))).setCell ⟨b, 1, none⟩ (.map (some (w1.heap.size + 1)))).heap.size = w1.heap.size := by simp [World.setCell]
            obtain ⟨w4, hst, HK⟩ : ∃ w4, (Instr.mapUpdate 58 (.map (some w1.heap.size)) (.int .i64 r) (.int .i64 l)).run Try.prog ((((w1.setCell ⟨b, 0, none⟩ (.map (some w1.heap.size))).setCell ⟨b, 1, none⟩ (.map (some (w1.heap.size + 1)))).alloc (.map #[] 0)).alloc (.map #[] 0)) = .ok () w4 ∧ Hid (WaO w S b L D r l w4) := by
              generalize (w1.setCell ⟨b, 0, none⟩ (.map (some w1.heap.size))).setCell ⟨b, 1, none⟩ (.map (some (w1.heap.size + 1))) = V at *
              have FA := (Fr.box V (.map #[] 0)).seq' (Fr.box (V.alloc (.map #[] 0)) (.map #[] 0))
              have MW := (Mp.made V).same (Fr.box (V.alloc (.map #[] 0)) (.map #[] 0))
              have MD := Mp.made (V.alloc (.map #[] 0))
              have T3 := T2.fr FA (fun f => f)
              have hs2 : (V.alloc (.map #[] 0)).heap.size = w1.heap.size + 1 := by rw [← hV]; simp
              rw [hV] at MW
              rw [hs2] at MD
              obtain ⟨w4, hst, MW4, F4⟩ := MW.store Try.underlying58 (by omega) (rng_wf HR.out.1) (.int .i64 l)
              have T4 := T3.fr F4 (by omega)
              have MD4 := MD.fr F4 (by omega)
              refine ⟨w4, hst, fun i => i = b ∨ i = w1.heap.size ∨ i = w1.heap.size + 1, fun i hi => ?_, ⟨.inl rfl, fun i hi => ?_, ?_, HT1.out.wf, .inr ⟨w1.heap.size, w1.heap.size + 1, 0, .inr (.inl rfl), .inr (.inr rfl), by omega, by omega, by omega, T4, ?_, ?_, by omega⟩⟩, ?_⟩
              · rcases hi with rfl | rfl | rfl
                · exact .inl HT1.out.own
                · exact .inr f1.size
                · exact .inr (by have := f1.size; omega)
              · have := F4.size
                have := FA.size
                have h6 : ((V.alloc (.map #[] 0)).alloc (.map #[] 0)).heap.size = V.heap.size + 1 + 1 := by simp
                rcases hi with rfl | rfl | rfl <;> omega
              · rw [HWL.out]; exact ins_ok HT1.out.ok HLK.out HR.out
              · rw [HWL.out, ← vupd_w HT1.out.ok HLK.out HR.out, ins_len, h0]
                rw [show wMap ([] : Wt) = fun _ => none from rfl]
                simpa using MW4
              · rw [hD, show dMap [] = fun _ => none from rfl]
                exact MD4
              · have G1 : Fr S w1 _ := (F2.mono (T := S) (fun i _ e => by subst e; exact HT1.out.own)).trans FA (fun _ _ e => e.elim)
                have G : Fr S w1 w4 := G1.trans F4 (fun i hi e => by omega)
                exact (f1.mono (fun _ _ f => f.elim)).trans G (fun _ _ e => e)
            clear k1 T2 F2 hV h0 hD
            go_wp2
            go_ret
            exact ⟨rfl, HK.out⟩
          · obtain ⟨x0, x1, x2, x3⟩ := k1.cells
            have e1 := fun ty => k2.len Try.underlying58 ty
            have qT : ∀ W : World, (binOp .eql 58 (.map (some m)) (.map none)).run Try.prog W = .ok (.bool false) W := fun W => run_eql_map_nil W _ _ _ (some m) Try.underlying58
            obtain ⟨n, hn⟩ : ∃ n, n = L.length := ⟨_, rfl⟩
            have hne : ((n : Int) == 1024) = false := by have := HL.out.2; rw [beq_eq_false_iff_ne]; omega
            obtain ⟨w4, hst, MW4, F4⟩ := k2.store Try.underlying58 (by have := HL.out.1; omega) (rng_wf HR.out.1) (.int .i64 l)
            have HK : Hid (WaO w S b L D r l w4) := by
              refine ⟨S, fun i hi => .inl hi, ⟨HT1.out.own, fun i hi => Nat.lt_of_lt_of_le (HT1.out.lt i hi) F4.size, ?_, HT1.out.wf, .inr ⟨m, d, nd, sm, sd, n1, n2, n3, k1.fr F4 n1, ?_, k3.fr F4 (fun e => n3 e.symm), k4⟩⟩, (f1.mono (fun _ _ f => f.elim)).trans F4 (fun i _ e => by subst e; exact sm)⟩
              · rw [HWL.out]; exact ins_ok HT1.out.ok HLK.out HR.out
              · rw [HWL.out, ← vupd_w HT1.out.ok HLK.out HR.out, ins_len]
                rw [wMap_some, HLK.out] at MW4
                exact MW4
            rw [← hn] at e1
            clear k1 k2 k3 MW4 F4 hn
            go_wp2
            go_ret
            exact ⟨rfl, HK.out⟩
      · have hE : waE L D r l = 7 := by simp [waE, show rng r = true from e1, show rng l = true from e2, hs]
        have HK : Hid (∀ w', Fr (fun _ => False) w w' → WaO w S b L D r l w') := fun w' f => WaO.no h (by omega) f
        rw [hE]
        have hs' : (stN L D r == 0) = false := by simpa using hs
        clear h hE hs
        obtain ⟨q, hq⟩ : ∃ q, q = stN L D r := ⟨_, rfl⟩
        rw [← hq] at h3 hs'
        have hs2 : (q != 0) = true := by simpa using hs'
        clear hq
        go_enter Try.func9, Try.ntmps9
        go_wp2_with (first | (go_at_call 26; refine (within_any _ _ _ _).mono ?_; rintro e w' ⟨rfl, rfl⟩) | (go_at_call 16; refine h3.mono ?_; rintro e w1 ⟨rfl, f1⟩))
        go_ret
        exact ⟨rfl, HK.out _ f1⟩
end Go.Proofs.Ytfmjefmocenkbaa
