
/- Whether pages are a whole row of a level. -/
import Derived.Test.YtlnkbjjohdmihaaGreatBkIs
namespace Go.Proofs.YtlnkbjjohdmihaaGreat
open Go.RowKit Go.Shelf

def isRowB : List Spt → Int → Bool
  | [], _ => true
  | s :: r, lev => (s.nd.lev == lev) && (((s.nd.rgt == 0) == r.isEmpty) && ((s.nd.high.toList.isEmpty == r.isEmpty) && (keepB s && isRowB r lev)))
theorem isRow_next {sp : List Spt} {k n : Nat} {s : Spt} (lev : Int) (hn : n = sp.length) (h : sp[k]? = some s) : isRowB (sp.drop k) lev = ((s.nd.lev == lev) && (((s.nd.rgt == 0) == decide (k + 1 = n)) && ((s.nd.high.toList.isEmpty == decide (k + 1 = n)) && (keepB s && isRowB (sp.drop (k + 1)) lev)))) := by
  have hj := (List.getElem?_eq_some_iff.1 h).1
  rw [List.drop_eq_getElem_cons hj, (List.getElem?_eq_some_iff.1 h).2]
  have he : (sp.drop (k + 1)).isEmpty = decide (k + 1 = n) := by
    rw [Bool.eq_iff_iff, List.isEmpty_iff, List.drop_eq_nil_iff, decide_eq_true_eq]; omega
  simp only [isRowB]
  rw [he]
set_option maxRecDepth 100000 in
set_option maxHeartbeats 8000000 in
theorem isRow_any (a : Option Addr) (n c : Nat) (sp : List Spt) (hn : n = sp.length) (lev : Int) (w : World) (h : Spots w a c sp) : Calls Tryz.prog 43 #[.slice a n c, .int .i64 lev] w fun e w' => e = .returned (.bool (isRowB sp lev)) ∧ Fr (fun _ => False) w w' := by
  have hle : n ≤ c := by rw [hn]; exact h.le
  have hmx := h.max
  have HS : Hid (∀ W, Fr (fun _ => False) w W → Spots W a c sp) := fun W f => h.same f
  have HN : Hid (n = sp.length) := hn
  clear h hn
  go_enter Tryz.func43, Tryz.ntmps43
  go_wp2
  go_loopw [10] (fun i wr => ∃ (k : Nat), k ≤ n ∧ i = .int .i64 k ∧ Hid (isRowB (sp.drop k) lev = isRowB sp lev) ∧ Fr (fun _ => False) w wr) (fun i _ => n - (intOf i).toNat)
  case atStart => exact ⟨0, by omega, rfl, rfl, Fr.refl _ _⟩
  case round =>
    obtain ⟨k, hk, rfl, HE, F⟩ := hrel
    by_cases hlt : k < n
    · obtain ⟨s, hs⟩ : ∃ s, sp[k]? = some s := ⟨_, List.getElem?_eq_getElem (by have := HN.out; omega)⟩
      obtain ⟨b, off, rfl, hb, hc⟩ := (HS.out _ F).some (by have := HN.out; omega)
      obtain ⟨q0, q1, q2, q3, q4, q5, q6, q7, q8⟩ := sp_range (hc k s hs)
      have HX0 := isRow_next lev HN.out hs
      have hki : (k : Int) < (n : Int) := by omega
      have FB := F.alloc (.cells #[.int .i64 s.page, .int .i64 s.nd.lev, .int .i64 s.nd.lsn, .int .i64 s.nd.rgt, .string s.nd.high, .slice s.pt.k s.nd.keys.length s.pt.kc, .slice s.pt.v s.nd.vals.length s.pt.vc, .slice s.pt.i s.nd.kids.length s.pt.ic, .string s.low] 96)
      have hkp := keeps_any s (wr.alloc (.cells #[.int .i64 s.page, .int .i64 s.nd.lev, .int .i64 s.nd.lsn, .int .i64 s.nd.rgt, .string s.nd.high, .slice s.pt.k s.nd.keys.length s.pt.kc, .slice s.pt.v s.nd.vals.length s.pt.vc, .slice s.pt.i s.nd.kids.length s.pt.ic, .string s.low] 96)) ((HS.out _ FB).nod s (List.mem_of_getElem? hs))
      clear hs hc
      obtain ⟨b1, h1⟩ : ∃ b, b = (s.nd.lev == lev) := ⟨_, rfl⟩
      obtain ⟨b2, h2⟩ : ∃ b, b = (s.nd.rgt == 0) := ⟨_, rfl⟩
      obtain ⟨b3, h3⟩ : ∃ b, b = s.nd.high.toList.isEmpty := ⟨_, rfl⟩
      obtain ⟨b4, h4⟩ : ∃ b, b = keepB s := ⟨_, rfl⟩
      have HX : Hid (isRowB (sp.drop k) lev = (b1 && ((b2 == decide (k + 1 = n)) && ((b3 == decide (k + 1 = n)) && (b4 && isRowB (sp.drop (k + 1)) lev))))) := by show _ = _; rw [HX0, h1, h2, h3, h4]
      rw [← h4] at hkp
      have e1 : (s.nd.lev != lev) = !b1 := by rw [h1]; rfl
      have e2 := h2.symm
      have e3 := h3.symm
      clear h1 h2 h3 h4 HX0
      by_cases hlast : k + 1 = n
      · have hl : ((k : Int) == (n : Int) - 1) = true := by simp; omega
        rw [decide_eq_true hlast] at HX
        have hnw : 0 < n := by omega
        clear hlast
        cases b1
        · have HR : Hid (isRowB sp lev = false) := by show _ = _; rw [← HE.out, HX.out]; rfl
          go_wp2
          go_ret
          exact ⟨ret_bool HR.out.symm, FB⟩
        · cases b2
          · have HR : Hid (isRowB sp lev = false) := by show _ = _; rw [← HE.out, HX.out]; rfl
            go_wp2
            go_ret
            exact ⟨ret_bool HR.out.symm, FB⟩
          · cases b3
            · have HR : Hid (isRowB sp lev = false) := by show _ = _; rw [← HE.out, HX.out]; rfl
              go_wp2
              go_ret
              exact ⟨ret_bool HR.out.symm, FB⟩
            · cases b4
              · have HR : Hid (isRowB sp lev = false) := by show _ = _; rw [← HE.out, HX.out]; rfl
                go_wp2_with fail
                refine hkp.mono ?_
                rintro e w1 ⟨rfl, f1⟩
                go_wp2
                go_ret
                exact ⟨ret_bool HR.out.symm, FB.seq' f1⟩
              · have HR : Hid (isRowB (sp.drop (k + 1)) lev = isRowB sp lev) := by show _ = _; rw [← HE.out, HX.out]; rfl
                go_wp2_with fail
                refine hkp.mono ?_
                rintro e w1 ⟨rfl, f1⟩
                clear q0 q1 q2 q3 q4 q5 q6 q7 q8
                go_wp2
                go_roundw
                case rel => exact ⟨k + 1, by omega, by go_num, HR, FB.seq' f1⟩
                case measure => simp [intOf]; omega
      · have hl : ((k : Int) == (n : Int) - 1) = false := by simp; omega
        rw [decide_eq_false hlast] at HX
        clear hlast
        cases b1
        · have HR : Hid (isRowB sp lev = false) := by show _ = _; rw [← HE.out, HX.out]; rfl
          go_wp2
          go_ret
          exact ⟨ret_bool HR.out.symm, FB⟩
        · cases b2
          · cases b3
            · cases b4
              · have HR : Hid (isRowB sp lev = false) := by show _ = _; rw [← HE.out, HX.out]; rfl
                go_wp2_with fail
                refine hkp.mono ?_
                rintro e w1 ⟨rfl, f1⟩
                go_wp2
                go_ret
                exact ⟨ret_bool HR.out.symm, FB.seq' f1⟩
              · have HR : Hid (isRowB (sp.drop (k + 1)) lev = isRowB sp lev) := by show _ = _; rw [← HE.out, HX.out]; rfl
                go_wp2_with fail
                refine hkp.mono ?_
                rintro e w1 ⟨rfl, f1⟩
                clear q0 q1 q2 q3 q4 q5 q6 q7 q8
                go_wp2
                go_roundw
                case rel => exact ⟨k + 1, by omega, by go_num, HR, FB.seq' f1⟩
                case measure => simp [intOf]; omega
            · have HR : Hid (isRowB sp lev = false) := by show _ = _; rw [← HE.out, HX.out]; rfl
              go_wp2
              go_ret
              exact ⟨ret_bool HR.out.symm, FB⟩
          · have HR : Hid (isRowB sp lev = false) := by show _ = _; rw [← HE.out, HX.out]; rfl
            go_wp2
            go_ret
            exact ⟨ret_bool HR.out.symm, FB⟩
    · have HR : Hid (isRowB sp lev = true) := by
        show _ = _
        rw [← HE.out, List.drop_of_length_le (by have := HN.out; omega)]; rfl
      go_wp2
      go_ret
      exact ⟨ret_bool HR.out.symm, F⟩
end Go.Proofs.YtlnkbjjohdmihaaGreat
