
/- The document's Fits and Take. -/
import Derived.Test.YtnhmickolfbldaaShFin
import Derived.Test.YtnhmickolfbldaaShBoth
import Derived.Test.YtnhmickolfbldaaShWrLoop
namespace Go.Proofs.Ytnhmickolfbldaa
open Go.RowKit Crcm

theorem fitL_drop {rs : List Rec} {k : Nat} {r : Rec} {e l : Int} (h : rs[k]? = some r) : (fitR e l r = true → (fitL e l (rs.drop k)).length = (fitL r.ep r.lsn (rs.drop (k + 1))).length + 1) ∧ (fitR e l r = false → (fitL e l (rs.drop k)).length = 0) := by
  refine ⟨fun hf => ?_, fun hf => ?_⟩
  · rw [fitL_yes h hf]; rfl
  · rw [fitL_no h hf]; rfl
set_option maxRecDepth 100000 in
set_option maxHeartbeats 4000000 in
theorem rfits_any (lb : Nat) (rv : Value) (ls : List Rec) (fl : Int) (me ml : Int) (h0 : 0 ≤ ml) (a : Option Addr) (n c : Nat) (rs : List Rec) (hn : n = rs.length) (hrok : ∀ r ∈ rs, rok r = true) (w : World) (hl : Rlg w lb rv ls fl) (hm : ls.length ≤ 65536) (h : Recs w a c rs) :
    Calls Try.prog 34 #[.pointer (some ⟨lb, 0, none⟩), .agg #[.int .i64 me, .int .i64 ml], .slice a n c] w fun e w' => e = .returned (.bool (decide ((ml = 0 ∨ hasB ls me ml = true) ∧ allB me ml rs = true))) ∧ Fr (fun _ => False) w w' := by
  have f0 := Fr.box w (.cells #[.int .i64 me, .int .i64 ml] 24)
  have hg := rget_lg ml lb rv ls fl _ (hl.same f0) hm
  have HT : Hid (∀ W, Fr (fun _ => False) (w.alloc (.cells #[.int .i64 me, .int .i64 ml] 24)) W → Two W w.heap.size 24 (.int .i64 me) (.int .i64 ml)) := fun W f => (Two.new w _ _ _).fr f (fun f => f)
  obtain ⟨x0, x1, _⟩ := (Two.new w 24 (.int .i64 me) (.int .i64 ml)).cells
  have HS : Hid (∀ W, Fr (fun _ => False) w W → Recs W a c rs) := fun W f => h.same f
  have HN : Hid (n = rs.length) := hn
  have HROK : Hid (∀ r ∈ rs, rok r = true) := hrok
  have hle : n ≤ c := by rw [hn]; exact h.le
  have hmx := h.max
  have HHB : Hid (hasB ls me ml = ((gtE ls ml == 0) && ((gtR ls ml).ep == me))) := rfl
  have HHL : Hid (hasB ls me ml = true → ml ≤ 1099511627776) := fun e => by have := (hasB_lsn e).2; omega
  generalize gtR ls ml = g at *
  generalize gtE ls ml = E at *
  clear h hl hm hn hrok
  have no : ml ≠ 0 → hasB ls me ml = false → Calls Try.prog 34 #[.pointer (some ⟨lb, 0, none⟩), .agg #[.int .i64 me, .int .i64 ml], .slice a n c] w fun e w' => e = .returned (.bool (decide ((ml = 0 ∨ hasB ls me ml = true) ∧ allB me ml rs = true))) ∧ Fr (fun _ => False) w w' := fun hz hb => by
    have hd : decide ((ml = 0 ∨ hasB ls me ml = true) ∧ allB me ml rs = true) = false := decide_eq_false (fun h => by
      rcases h.1 with h | h
      · exact hz h
      · rw [hb] at h; cases h)
    rw [hd]
    have d0 : (ml != 0) = true := by simpa using hz
    have hb2 := HHB.out
    rw [hb] at hb2
    have hcs : (E != 0) = true ∨ ((E != 0) = false ∧ (g.ep != me) = true) := by
      by_cases e1 : E = 0
      · refine .inr ⟨by rw [e1]; rfl, ?_⟩
        rw [e1] at hb2
        simpa using hb2.symm
      · exact .inl (by simpa using e1)
    clear hd hz hb hb2 HHL HHB
    rcases hcs with d1 | ⟨d1, d2⟩
    all_goals
      go_enter Try.func34, Try.ntmps34
      go_wp2_with fail
      refine hg.mono ?_
      rintro e w1 ⟨rfl, g1⟩
      have fB := Fr.box w1 (.cells #[.int .i64 g.lsn, .int .i64 g.ep, .int .i64 g.kind, .int .i64 g.page, .int .i64 g.other, .int .i64 g.req, .string g.key, .string g.val] 64)
      obtain ⟨⟨c0, c1, c2, c3, c4, c5, c6, c7⟩, _⟩ := rec_cells (heap_alloc_new w1 (.cells #[.int .i64 g.lsn, .int .i64 g.ep, .int .i64 g.kind, .int .i64 g.page, .int .i64 g.other, .int .i64 g.req, .string g.key, .string g.val] 64))
      obtain ⟨y0, y1, _⟩ := (HT.out _ (g1.seq' fB)).cells
      go_wp2
      go_ret
      exact ⟨rfl, f0.seq' (g1.seq' fB)⟩
  by_cases hcase : ml = 0 ∨ hasB ls me ml = true
  rotate_left
  · refine no (fun e => hcase (.inl e)) ?_
    cases hb : hasB ls me ml
    · rfl
    · exact absurd (.inr hb) hcase
  have HD : Hid (decide ((ml = 0 ∨ hasB ls me ml = true) ∧ allB me ml rs = true) = allB me ml rs) := by
    show _ = _
    cases hb : allB me ml rs
    · exact decide_eq_false (fun h => by cases h.2)
    · exact decide_eq_true ⟨hcase, rfl⟩
  rw [HD.out]
  have HAB : Hid (allB me ml rs = (((fitL me ml rs).length : Int) == (rs.length : Int))) := rfl
  have hml : ml ≤ 1099511627776 := by
    rcases hcase with h | h
    · omega
    · exact HHL.out h
  -- what the first test comes to
  have hcs : (ml != 0) = false ∨ ((ml != 0) = true ∧ (E != 0) = false ∧ (g.ep != me) = false) := by
    by_cases e0 : ml = 0
    · exact .inl (by rw [e0]; rfl)
    · rcases hcase with h | h
      · exact absurd h e0
      · rw [HHB.out, Bool.and_eq_true] at h
        exact .inr ⟨by simpa using e0, by simpa using h.1, by simpa using h.2⟩
  clear no hcase HD HHL HHB
  go_enter Try.func34, Try.ntmps34
  go_wp2_with fail
  generalize w.alloc (.cells #[.int .i64 me, .int .i64 ml] 24) = V at *
  refine hg.mono ?_
  rintro e w1 ⟨rfl, g1⟩
  have fB := Fr.box w1 (.cells #[.int .i64 g.lsn, .int .i64 g.ep, .int .i64 g.kind, .int .i64 g.page, .int .i64 g.other, .int .i64 g.req, .string g.key, .string g.val] 64)
  have HG1 : Hid (Fr (fun _ => False) V (w1.alloc (.cells #[.int .i64 g.lsn, .int .i64 g.ep, .int .i64 g.kind, .int .i64 g.page, .int .i64 g.other, .int .i64 g.req, .string g.key, .string g.val] 64))) := g1.seq' fB
  obtain ⟨⟨c0, c1, c2, c3, c4, c5, c6, c7⟩, _⟩ := rec_cells (heap_alloc_new w1 (.cells #[.int .i64 g.lsn, .int .i64 g.ep, .int .i64 g.kind, .int .i64 g.page, .int .i64 g.other, .int .i64 g.req, .string g.key, .string g.val] 64))
  clear x0 x1 hg fB g1
  obtain ⟨y0, y1, _⟩ := (HT.out _ HG1.out).cells
  go_upto_region 2 with fail
  obtain ⟨W1, hW1⟩ : ∃ W, W = w1.alloc (.cells #[.int .i64 g.lsn, .int .i64 g.ep, .int .i64 g.kind, .int .i64 g.page, .int .i64 g.other, .int .i64 g.req, .string g.key, .string g.val] 64) := ⟨_, rfl⟩
  rw [← hW1] at HG1 y0 y1 c0 c1 c2 c3 c4 c5 c6 c7 ⊢
  clear hW1
  go_cut [33] (fun b wc => b = .bool false ∧ W1 = wc)
  case first =>
    rcases hcs with d0 | ⟨d0, d1, d2⟩
    · go_wp2
      go_meet
      exact ⟨rfl, rfl⟩
    · go_wp2
      go_meet
      exact ⟨rfl, rfl⟩
  case rest =>
  obtain ⟨rfl, rfl⟩ := hcut
  clear hcs c0 c1 c2 c3 c4 c5 c6 c7
  go_wp2
  go_loopw [40, 9, 10] (fun i lv ev wr => ∃ (k : Nat) (e l : Int), k ≤ n ∧ i = .int .i64 k ∧ lv = .int .i64 l ∧ ev = .int .i64 e ∧ (0 ≤ l ∧ l ≤ 1099511627776) ∧ Hid ((fitL me ml rs).length = k + (fitL e l (rs.drop k)).length) ∧ Hid (Fr (fun _ => False) V wr)) (fun i _ _ _ => n - (intOf i).toNat)
  case atStart => exact ⟨0, me, ml, by omega, rfl, rfl, rfl, ⟨h0, hml⟩, by show _ = _; simp, HG1⟩
  case round =>
    obtain ⟨k, e, l, hk, rfl, rfl, rfl, ⟨hl0, hl1⟩, HE, HF⟩ := hrel
    by_cases hlt : k < n
    · obtain ⟨r, hr⟩ : ∃ r, rs[k]? = some r := ⟨_, List.getElem?_eq_getElem (by have := HN.out; omega)⟩
      obtain ⟨b, off, rfl, hb, hc⟩ := (HS.out _ (f0.seq' HF.out)).some (by have := HN.out; omega)
      obtain ⟨q0, q1, q2, q3, q4, q5, q6, q7⟩ := rec_range (hc k r hr)
      have hki : (k : Int) < (n : Int) := by omega
      have hrr := rok_lsn (HROK.out r (List.mem_of_getElem? hr))
      obtain ⟨dy, dn⟩ := fitL_drop (e := e) (l := l) hr
      have HDY : Hid _ := dy
      have HDN : Hid _ := dn
      have fB := Fr.box wr (.cells #[.int .i64 r.lsn, .int .i64 r.ep, .int .i64 r.kind, .int .i64 r.page, .int .i64 r.other, .int .i64 r.req, .string r.key, .string r.val] 64)
      have HF1 : Hid (Fr (fun _ => False) V (wr.alloc (.cells #[.int .i64 r.lsn, .int .i64 r.ep, .int .i64 r.kind, .int .i64 r.page, .int .i64 r.other, .int .i64 r.req, .string r.key, .string r.val] 64))) := HF.out.seq' fB
      obtain ⟨⟨d0, d1, d2, d3, d4, d5, d6, d7⟩, _⟩ := rec_cells (heap_alloc_new wr (.cells #[.int .i64 r.lsn, .int .i64 r.ep, .int .i64 r.kind, .int .i64 r.page, .int .i64 r.other, .int .i64 r.req, .string r.key, .string r.val] 64))
      have hw1 : IntKind.i64.wrap (l + 1) = l + 1 := by simp [IntKind.wrap, IntKind.bits, IntKind.signed]; omega
      have HNO : Hid (fitR e l r = false → allB me ml rs = false) := fun hf => by
        rw [HAB.out, HE.out, HDN.out hf]
        rw [beq_eq_false_iff_ne]
        have := HN.out; omega
      clear hc hr dy dn fB
      by_cases h1 : r.lsn = l + 1
      · have k1 : (r.lsn != l + 1) = false := by rw [h1]; simp
        by_cases h2 : e ≤ r.ep
        · have k2 : decide (r.ep < e) = false := decide_eq_false (by omega)
          have HE2 : Hid ((fitL me ml rs).length = (k + 1) + (fitL r.ep r.lsn (rs.drop (k + 1))).length) := by
            show _ = _
            rw [HE.out, HDY.out (fitR_parts.2 ⟨h1, h2⟩)]; omega
          have HLB : Hid (0 ≤ r.lsn ∧ r.lsn ≤ 1099511627776) := ⟨by omega, hrr.2⟩
          clear HE HDY HDN HNO h1 h2 hrr
          go_wp2
          go_roundw
          case rel => exact ⟨k + 1, r.ep, r.lsn, by omega, by go_num, rfl, rfl, HLB.out, HE2, HF1⟩
          case measure => simp [intOf]; omega
        · have k2 : decide (r.ep < e) = true := decide_eq_true (by omega)
          have HR : Hid (allB me ml rs = false) := HNO.out (by rw [← Bool.not_eq_true]; intro h; exact h2 (fitR_parts.1 h).2)
          clear HE HDY HDN HNO h1 h2 hrr
          go_wp2
          go_ret
          exact ⟨by rw [HR.out]; rfl, f0.seq' HF1.out⟩
      · have k1 : (r.lsn != l + 1) = true := by simpa using h1
        have HR : Hid (allB me ml rs = false) := HNO.out (by rw [← Bool.not_eq_true]; intro h; exact h1 (fitR_parts.1 h).1)
        clear HE HDY HDN HNO h1 hrr
        go_wp2
        go_ret
        exact ⟨by rw [HR.out]; rfl, f0.seq' HF1.out⟩
    · have hki : decide ((k : Int) < (n : Int)) = false := decide_eq_false (by omega)
      have HR : Hid (allB me ml rs = true) := by
        show _ = _
        rw [HAB.out, HE.out, List.drop_of_length_le (by have := HN.out; omega)]
        rw [beq_iff_eq]
        have := HN.out
        simp only [fitL, List.length_nil]; omega
      clear HE
      go_wp2
      go_ret
      exact ⟨by rw [HR.out]; rfl, f0.seq' HF.out⟩
end Go.Proofs.Ytnhmickolfbldaa
