
/- Why nothing is taken. -/
import Derived.Test.YtimpoincnfiibaaShAll
import Derived.Test.YtimpoincnfiibaaShLg
namespace Go.Proofs.Ytimpoincnfiibaa
open Go.RowKit Crcm

def lkE (ls : List Rec) (me ml : Int) (rs : List Rec) : Int := if rs.all rok then (if ml < 0 then 90 else if (0 < ml ∧ hasB ls me ml = false) ∨ allB me ml rs = false then 200 else 0) else 90
theorem lkE_bad {ls : List Rec} {me ml : Int} {rs : List Rec} {r : Rec} (h : r ∈ rs) (hr : rok r = false) : lkE ls me ml rs = 90 := by
  unfold lkE
  rw [if_neg]
  intro e
  rw [List.all_eq_true] at e
  rw [e r h] at hr; cases hr
theorem lkE_good {ls : List Rec} {me ml : Int} {rs : List Rec} (h : ∀ r ∈ rs, rok r = true) : lkE ls me ml rs = if ml < 0 then 90 else if (0 < ml ∧ hasB ls me ml = false) ∨ allB me ml rs = false then 200 else 0 := by
  unfold lkE
  rw [if_pos (List.all_eq_true.2 h)]
theorem rok_lsn {r : Rec} (h : rok r = true) : 1 ≤ r.lsn ∧ r.lsn ≤ 1099511627776 := by
  unfold rok at h
  rw [Bool.and_eq_true] at h
  have := h.1
  unfold wthB at this
  rwa [decide_eq_true_eq] at this
theorem hasB_lsn {ls : List Rec} {e l : Int} (h : hasB ls e l = true) : 1 ≤ l ∧ l ≤ ls.length := by
  unfold hasB gtE at h
  rw [Bool.and_eq_true] at h
  by_cases hc : 1 ≤ l ∧ l ≤ ls.length
  · exact hc
  · rw [if_neg hc] at h
    exact absurd h.1 (by decide)
set_option maxRecDepth 100000 in
set_option maxHeartbeats 4000000 in
theorem look_any (lb : Nat) (rv : Value) (ls : List Rec) (fl : Int) (me ml : Int) (a : Option Addr) (n c : Nat) (rs : List Rec) (hn : n = rs.length) (hfew : rs.length ≤ 1759218604442) (w : World) (hl : Lg w lb rv ls fl) (hw : Wl ls) (h : Recs w a c rs) :
    Calls Try.prog 22 #[.pointer (some ⟨lb, 0, none⟩), .agg #[.int .i64 me, .int .i64 ml], .slice a n c] w fun e w' => e = .returned (.int .i64 (lkE ls me ml rs)) ∧ Fr (fun _ => False) w w' := by
  have hm := hw.big
  have f0 := Fr.box w (.cells #[.int .i64 me, .int .i64 ml] 36)
  have HT : Hid (∀ W, Fr (fun _ => False) (w.alloc (.cells #[.int .i64 me, .int .i64 ml] 36)) W → Two W w.heap.size 36 (.int .i64 me) (.int .i64 ml)) := fun W f => (Two.new w _ _ _).fr f (fun f => f)
  have HS : Hid (∀ W, Fr (fun _ => False) w W → Recs W a c rs) := fun W f => h.same f
  have HHS : Hid (∀ W, Fr (fun _ => False) w W → Calls Try.prog 33 #[.pointer (some ⟨lb, 0, none⟩), .agg #[.int .i64 me, .int .i64 ml]] W fun x w' => x = .returned (.bool (hasB ls me ml)) ∧ Fr (fun _ => False) W w') := fun W f => has_any me ml lb rv ls fl W (hl.same f) hm
  have HAL : Hid ((∀ r ∈ rs, rok r = true) → 0 ≤ ml → ml ≤ 1099511627776 → ∀ W, Fr (fun _ => False) w W → Calls Try.prog 34 #[.agg #[.int .i64 me, .int .i64 ml], .slice a n c] W fun e w' => e = .returned (.bool (allB me ml rs)) ∧ Fr (fun _ => False) W w') := fun hr h0 h1 W f => allFit_any me ml h0 h1 a n c rs hn (fun r hm => (rok_lsn (hr r hm)).2) hfew W (h.same f)
  have hle : n ≤ c := by rw [hn]; exact h.le
  have hmx := h.max
  have HN : Hid (n = rs.length) := hn
  have HHL : Hid (hasB ls me ml = true → ml ≤ 1099511627776) := fun e => by have := (hasB_lsn e).2; omega
  clear h hl hw hn hfew hm
  go_enter Try.func22, Try.ntmps22
  go_wp2
  generalize w.alloc (.cells #[.int .i64 me, .int .i64 ml] 36) = V at *
  go_loopw [12] (fun i wr => ∃ (k : Nat), k ≤ n ∧ i = .int .i64 k ∧ Hid (∀ (i : Nat) r, rs[i]? = some r → i < k → rok r = true) ∧ Hid (Fr (fun _ => False) V wr)) (fun i _ => n - (intOf i).toNat)
  case atStart => exact ⟨0, by omega, rfl, (fun i r _ h => by omega), Fr.refl _ _⟩
  case round =>
    obtain ⟨k, hk, rfl, HK, HF⟩ := hrel
    by_cases hlt : k < n
    · obtain ⟨r, hr⟩ : ∃ r, rs[k]? = some r := ⟨_, List.getElem?_eq_getElem (by have := HN.out; omega)⟩
      obtain ⟨b, off, rfl, hb, hc⟩ := (HS.out _ (f0.seq' HF.out)).some (by have := HN.out; omega)
      obtain ⟨q0, q1, q2, q3, q4, q5, q6, q7⟩ := rec_range (hc k r hr)
      have hki : (k : Int) < (n : Int) := by omega
      have fB := Fr.box wr (.cells #[.int .i64 r.lsn, .int .i64 r.ep, .int .i64 r.kind, .int .i64 r.page, .int .i64 r.other, .int .i64 r.req, .string r.key, .string r.val] 47)
      obtain ⟨⟨d0, d1, d2, d3, d4, d5, d6, d7⟩, _⟩ := rec_cells (heap_alloc_new wr (.cells #[.int .i64 r.lsn, .int .i64 r.ep, .int .i64 r.kind, .int .i64 r.page, .int .i64 r.other, .int .i64 r.req, .string r.key, .string r.val] 47))
      have hck := rec_check r
      have HR : Hid (rs[k]? = some r) := hr
      clear hc hr
      cases hok : rok r
      · rw [erec_no hok] at hck
        have HE : Hid (lkE ls me ml rs = 90) := lkE_bad (List.mem_of_getElem? HR.out) hok
        clear hok HK
        go_wp2_with fail
        refine (hck _).mono ?_
        rintro e w1 ⟨rfl, g1⟩
        go_wp2
        go_ret
        exact ⟨ret_int HE.out.symm, f0.seq' ((HF.out.seq' fB).seq' g1)⟩
      · rw [erec_yes hok] at hck
        have HK2 : Hid (∀ (i : Nat) s, rs[i]? = some s → i < k + 1 → rok s = true) := fun i s hs hi => by
          rcases Nat.lt_or_ge i k with h | h
          · exact HK.out i s hs h
          · have : i = k := by omega
            subst this; rw [HR.out] at hs; cases hs; exact hok
        clear hok HK
        go_wp2_with fail
        refine (hck _).mono ?_
        rintro e w1 ⟨rfl, g1⟩
        have HF1 : Hid (Fr (fun _ => False) V w1) := (HF.out.seq' fB).seq' g1
        clear g1
        go_wp2
        go_roundw
        case rel => exact ⟨k + 1, by omega, by go_num, HK2, HF1⟩
        case measure => simp [intOf]; omega
    · have hki : decide ((k : Int) < (n : Int)) = false := decide_eq_false (by omega)
      have HALL : Hid (∀ r ∈ rs, rok r = true) := fun r hr => by
        obtain ⟨i, hi, he⟩ := List.getElem_of_mem hr
        exact HK.out i r (by rw [List.getElem?_eq_getElem hi, he]) (by have := HN.out; omega)
      have HE : Hid (lkE ls me ml rs = if ml < 0 then 90 else if (0 < ml ∧ hasB ls me ml = false) ∨ allB me ml rs = false then 200 else 0) := lkE_good HALL.out
      obtain ⟨x0, x1, _⟩ := (HT.out _ HF.out).cells
      have F1 := f0.seq' HF.out
      clear HK
      by_cases h0 : ml < 0
      · have d0 : decide (ml < 0) = true := decide_eq_true h0
        have HE2 : Hid (lkE ls me ml rs = 90) := by show _ = _; rw [HE.out, if_pos h0]
        clear HE
        go_wp2
        go_ret
        exact ⟨ret_int HE2.out.symm, F1⟩
      · have d0 : decide (ml < 0) = false := decide_eq_false h0
        have HE1 : Hid (lkE ls me ml rs = if (0 < ml ∧ hasB ls me ml = false) ∨ allB me ml rs = false then 200 else 0) := by show _ = _; rw [HE.out, if_neg h0]
        clear HE
        by_cases h1 : 0 < ml
        · have d1 : decide (0 < ml) = true := decide_eq_true h1
          have hhs := HHS.out _ F1
          cases hh : hasB ls me ml
          · rw [hh] at hhs
            have HE2 : Hid (lkE ls me ml rs = 200) := by show _ = _; rw [HE1.out, if_pos (.inl ⟨h1, hh⟩)]
            clear HE1 hh
            go_wp2_with fail
            refine hhs.mono ?_
            rintro e w1 ⟨rfl, g1⟩
            go_wp2
            go_ret
            exact ⟨ret_int HE2.out.symm, F1.seq' g1⟩
          · rw [hh] at hhs
            have hal := HAL.out HALL.out (by omega) (HHL.out hh)
            cases ha : allB me ml rs
            · rw [ha] at hal
              have HE2 : Hid (lkE ls me ml rs = 200) := by show _ = _; rw [HE1.out, if_pos (.inr ha)]
              clear HE1 hh ha
              go_wp2_with fail
              refine hhs.mono ?_
              rintro e w1 ⟨rfl, g1⟩
              obtain ⟨y0, y1, _⟩ := (HT.out _ (HF.out.seq' g1)).cells
              go_wp2_with fail
              refine (hal _ (F1.seq' g1)).mono ?_
              rintro e w2 ⟨rfl, g2⟩
              go_wp2
              go_ret
              exact ⟨ret_int HE2.out.symm, (F1.seq' g1).seq' g2⟩
            · rw [ha] at hal
              have HE2 : Hid (lkE ls me ml rs = 0) := by show _ = _; rw [HE1.out, if_neg (fun h => h.elim (fun h => by rw [hh] at h; cases h.2) (fun h => by rw [ha] at h; cases h))]
              clear HE1 hh ha
              go_wp2_with fail
              refine hhs.mono ?_
              rintro e w1 ⟨rfl, g1⟩
              obtain ⟨y0, y1, _⟩ := (HT.out _ (HF.out.seq' g1)).cells
              go_wp2_with fail
              refine (hal _ (F1.seq' g1)).mono ?_
              rintro e w2 ⟨rfl, g2⟩
              go_wp2
              go_ret
              exact ⟨ret_int HE2.out.symm, (F1.seq' g1).seq' g2⟩
        · have d1 : decide (0 < ml) = false := decide_eq_false h1
          have hal := HAL.out HALL.out (by omega) (by omega)
          cases ha : allB me ml rs
          · rw [ha] at hal
            have HE2 : Hid (lkE ls me ml rs = 200) := by show _ = _; rw [HE1.out, if_pos (.inr ha)]
            clear HE1 ha
            go_wp2_with fail
            refine (hal _ F1).mono ?_
            rintro e w2 ⟨rfl, g2⟩
            go_wp2
            go_ret
            exact ⟨ret_int HE2.out.symm, F1.seq' g2⟩
          · rw [ha] at hal
            have HE2 : Hid (lkE ls me ml rs = 0) := by show _ = _; rw [HE1.out, if_neg (fun h => h.elim (fun h => h1 h.1) (fun h => by rw [ha] at h; cases h))]
            clear HE1 ha
            go_wp2_with fail
            refine (hal _ F1).mono ?_
            rintro e w2 ⟨rfl, g2⟩
            go_wp2
            go_ret
            exact ⟨ret_int HE2.out.symm, F1.seq' g2⟩
theorem look_nil (w : World) : Calls Try.prog 22 #[.pointer none, .agg #[.int .i64 0, .int .i64 0], .slice none 0 0] w fun e w' => e = .returned (.int .i64 6) ∧ Fr (fun _ => False) w w' := by
  have f0 := Fr.box w (.cells #[.int .i64 0, .int .i64 0] 36)
  obtain ⟨x0, x1, _⟩ := (Two.new w 36 (.int .i64 0) (.int .i64 0)).cells
  go_enter Try.func22, Try.ntmps22
  go_wp2
  refine wp_loop_rounds 1 ?_
  rw [rounds_succ]
  go_wp2
  go_ret
  exact ⟨rfl, f0⟩
end Go.Proofs.Ytimpoincnfiibaa
