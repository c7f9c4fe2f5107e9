
/- RsBack, RsAgain. -/
import Derived.Test.YtkibbojiflklpaaGreatRXF
import Derived.Test.YtkibbojiflklpaaGreatReA2
import Derived.Test.YtkibbojiflklpaaGreatReA5
import Derived.Test.YtkibbojiflklpaaGreatRXG
/- Restart: one comes back behind a crash. -/
namespace Go.Proofs.YtkibbojiflklpaaGreat
open Go.RowKit

def mxP (ps : List (Int × Nd)) : Int := ps.foldl (fun m p => mx m p.2.lsn) 0
theorem mxP_of (ls : List Sl) : maxL ls = mxP (psOf ls) := by unfold maxL mxP psOf; rw [List.foldl_map]
def rootP (ps : List (Int × Nd)) : List (Int × Nd) := match ps with
  | [] => [(1, zn)]
  | p :: l => if p.1 = 1 then p :: l else (1, zn) :: p :: l
theorem rootP_of (ls : List Sl) : psOf (rootL ls) = rootP (psOf ls) := by
  unfold rootL rootP
  cases ls with
  | nil => rfl
  | cons s l =>
    by_cases h : s.page = 1
    · rw [if_pos (by simpa [rootB] using h)]
      show _ = if s.page = 1 then _ else _
      rw [if_pos h]
      rfl
    · rw [if_neg (by simpa [rootB] using h)]
      show _ = if s.page = 1 then _ else _
      rw [if_neg h]
      rfl
theorem ri_few : ∀ (ls : List Im) (x : Int), riB x ls = true → ls = [] ∨ x + ls.length ≤ 4096
  | [], _, _ => .inl rfl
  | i :: l, x, h => by
    simp only [riB, Bool.and_eq_true, decide_eq_true_eq] at h
    obtain ⟨⟨h1, h2⟩, h3⟩ := h
    rcases ri_few l i.page h3 with e | e
    · subst e; right; simp; omega
    · right; simp; omega
theorem key_small {s : ByteArray} (h : keyB s = true) : s.size ≤ 140737488351232 := by
  unfold keyB ekey at h
  by_cases e : s.size = 0 ∨ 16 < s.size
  · rw [if_pos e] at h; simp at h
  · omega
theorem val_small {s : ByteArray} (h : valB s = true) : s.size ≤ 140737488351232 := by
  unfold valB evalu at h
  by_cases e : 32 < s.size
  · rw [if_pos e] at h; simp at h
  · omega
theorem new_small {s : ByteArray} (h : newB s = true) : s.size ≤ 140737488351232 := by
  unfold newB at h
  simp only [Bool.and_eq_true] at h
  cases hd : decF (bsOf s) with
  | none => rw [hd] at h; simp at h
  | some n =>
    have h1 : (bsOf s).length = 256 := by
      unfold decF at hd
      by_cases e : (bsOf s).length = 256
      · exact e
      · simp [e] at hd
    rw [bsOf_length] at h1
    omega
theorem rok_small {r : Rec} (h : rok r = true) : r.key.size ≤ 140737488351232 ∧ r.val.size ≤ 140737488351232 := by
  have hs : suitB r = true := by
    unfold rok at h
    simp only [Bool.and_eq_true] at h
    exact h.2.2
  unfold suitB at hs
  by_cases e7 : r.kind = 7
  · rw [if_pos e7] at hs
    simp only [Bool.and_eq_true, Bool.or_eq_true] at hs
    refine ⟨key_small hs.2.2.2, ?_⟩
    rcases hs.2.1 with h1 | h1
    · exact val_small h1.2
    · exact val_small (valB_emp h1.2)
  · rw [if_neg e7] at hs
    simp only [Bool.and_eq_true] at hs
    have h2 := hs.2
    by_cases e1 : r.kind = 1
    · rw [if_pos e1] at h2
      simp only [Bool.and_eq_true] at h2
      exact ⟨val_small (valB_emp h2.2.2.1), val_small (valB_emp h2.2.2.2)⟩
    · rw [if_neg e1] at h2
      by_cases e2 : r.kind = 2
      · rw [if_pos e2] at h2
        simp only [Bool.and_eq_true] at h2
        exact ⟨key_small h2.2.2.1, val_small h2.2.2.2⟩
      · rw [if_neg e2] at h2
        by_cases e3 : r.kind = 3
        · rw [if_pos e3] at h2
          simp only [Bool.and_eq_true] at h2
          exact ⟨key_small h2.2.2.1, val_small (valB_emp h2.2.2.2)⟩
        · rw [if_neg e3] at h2
          by_cases e4 : r.kind = 4
          · rw [if_pos e4] at h2
            simp only [Bool.and_eq_true] at h2
            exact ⟨val_small (valB_emp h2.2.2.1), new_small h2.2.2.2⟩
          · rw [if_neg e4] at h2
            by_cases e5 : r.kind = 5 ∨ r.kind = 6
            · rw [if_pos e5] at h2
              simp only [Bool.and_eq_true] at h2
              exact ⟨key_small h2.2.2.1, val_small (valB_emp h2.2.2.2)⟩
            · rw [if_neg e5] at h2; cases h2
theorem tolP_len (ls : List Im) : (tolP ls).length ≤ ls.length := by
  induction ls with
  | nil => exact Nat.le_refl _
  | cons i l ih =>
    unfold tolP at ih ⊢
    rw [List.flatMap_cons, List.length_append, List.length_cons]
    refine Nat.le_trans (Nat.add_le_add (b := 1) ?_ ih) (by omega)
    cases decF i.bs <;> simp
/-- What one comes back to: the pages, the last LSN, what is wrong. -/
def bkO (ims : List Im) (lg : List Nat) (first : Int) : List (Int × Nd) × Int × Int :=
  if first < 1 ∨ riB 0 ims = false then ([], 0, 1)
  else if ((Re.wread lg).1.length : Int) < mxP (tolP ims) then ([], 0, 100)
  else if (rplA (rootP (tolP ims)) (Re.frF (Re.wread lg).1 (if tolB ims = [] then first else 1) 65536)).2 = 0 ∧ ckP (rplA (rootP (tolP ims)) (Re.frF (Re.wread lg).1 (if tolB ims = [] then first else 1) 65536)).1 = 0
    then ((rplA (rootP (tolP ims)) (Re.frF (Re.wread lg).1 (if tolB ims = [] then first else 1) 65536)).1, (Re.wread lg).1.length, 0)
  else ([], 0, 130)
def BkR (w : World) (o : List (Int × Nd) × Int × Int) (e : Ending) (w' : World) : Prop := ∃ a c ls, e = .returned (.tuple #[.slice a ls.length c, .int .i64 o.2.1, .int .i64 o.2.2]) ∧ Sv w' (.slice a ls.length c) ls ∧ psOf ls = o.1 ∧ Fr (fun _ => False) w w'
theorem bkr_no {w W : World} {o : List (Int × Nd) × Int × Int} {er : Int} (h : o = ([], 0, er)) (f : Fr (fun _ => False) w W) : BkR w o (.returned (.tuple #[.slice none 0 0, .int .i64 0, .int .i64 er])) W := by
  subst h
  exact ⟨none, 0, [], rfl, ⟨Has.nil _ _, (fun s hs => by cases hs), (fun s hs => by cases hs)⟩, rfl, f⟩
theorem frF_mem {ls : List Rec} {n m : Int} {r : Rec} (h : r ∈ Re.frF ls n m) : r ∈ ls := by
  unfold Re.frF at h
  split at h
  · cases h
  · exact List.mem_of_mem_drop (List.mem_of_mem_take h)
set_option maxRecDepth 100000 in
set_option maxHeartbeats 16000000 in
theorem back_any (a : Option Addr) (n c : Nat) (ims : List Im) (hn : n = ims.length) (la : Option Addr) (ln lc : Nat) (lg : List Nat) (hln : ln = lg.length) (first : Int) (hwf : -9223372036854775808 ≤ first ∧ first ≤ 9223372036854775807) (w : World) (h : Ims w a c ims) (hl : Row w la lc lg) :
    Calls Tryz.prog 5 #[.slice a n c, .slice la ln lc, .int .i64 first] w fun e w' => BkR w (bkO ims lg first) e w' := by
  by_cases h1 : first < 1
  · have HO : Hid (bkO ims lg first = ([], 0, 1)) := by show _ = _; unfold bkO; rw [if_pos (.inl h1)]
    clear h hl hn hln hwf
    go_enter Tryz.func5, Tryz.ntmps5
    go_wp2
    go_ret3
    exact bkr_no HO.out (Fr.refl _ _)
  · have hri := rise_any a n c ims hn w h
    cases hr : riB 0 ims
    · rw [hr] at hri
      have HO : Hid (bkO ims lg first = ([], 0, 1)) := by show _ = _; unfold bkO; rw [if_pos (.inr hr)]
      clear h hl hn hln hwf hr
      go_enter Tryz.func5, Tryz.ntmps5
      go_wp2_with fail
      refine hri.mono ?_
      rintro e w1 ⟨rfl, f1⟩
      go_wp2
      go_ret3
      exact bkr_no HO.out f1
    · rw [hr] at hri
      have hfew : n ≤ 4096 := by
        rcases ri_few ims 0 hr with e | e
        · rw [hn, e]; simp
        · omega
      have HO : Hid (bkO ims lg first = if ((Re.wread lg).1.length : Int) < mxP (tolP ims) then ([], 0, 100)
          else if (rplA (rootP (tolP ims)) (Re.frF (Re.wread lg).1 (if tolB ims = [] then first else 1) 65536)).2 = 0 ∧ ckP (rplA (rootP (tolP ims)) (Re.frF (Re.wread lg).1 (if tolB ims = [] then first else 1) 65536)).1 = 0
          then ((rplA (rootP (tolP ims)) (Re.frF (Re.wread lg).1 (if tolB ims = [] then first else 1) 65536)).1, ((Re.wread lg).1.length : Int), 0) else ([], 0, 130)) := by
        show _ = _
        unfold bkO
        rw [if_neg (by rw [hr]; simp; omega)]
      have HIM : Hid (∀ W, Fr (fun _ => False) w W → Ims W a c ims) := fun W f => h.same f
      have HRW : Hid (∀ W, Fr (fun _ => False) w W → Row W la lc lg) := fun W f => hl.same f
      have HN : Hid (n = ims.length) := hn
      have HLN : Hid (ln = lg.length) := hln
      have HWF : Hid (-9223372036854775808 ≤ first ∧ first ≤ 9223372036854775807) := hwf
      clear h hl hn hln hwf hr
      go_enter Tryz.func5, Tryz.ntmps5
      go_wp2_with fail
      refine hri.mono ?_
      rintro e w1 ⟨rfl, f1⟩
      have hrd := Re.read_any la ln lc lg HLN.out w1 (HRW.out _ f1)
      clear hri
      go_wp2_with fail
      refine hrd.mono ?_
      rintro e w2 ⟨rfl, rv, hlg, hwl, f2, _⟩
      have F2 := f1.seq' f2
      obtain ⟨rs, hrs⟩ : ∃ rs, rs = (Re.wread lg).1 := ⟨_, rfl⟩
      rw [← hrs] at hlg hwl HO
      obtain ⟨sz, hsz⟩ : ∃ sz, sz = (Re.wread lg).2 := ⟨_, rfl⟩
      rw [← hsz]
      obtain ⟨lb, hlb⟩ : ∃ lb, lb = w1.heap.size := ⟨_, rfl⟩
      rw [← hlb] at hlg ⊢
      have HLG : Hid (∀ W, Fr (fun _ => False) w2 W → Re.Lg W lb rv rs (rs.length : Int)) := fun W f => hlg.same f
      have HWL : Hid (Re.Wl rs) := hwl
      have hla := Re.last_lg lb rv rs _ w2 hlg hwl
      clear hrd hlg hwl hrs hsz hlb f1 f2
      go_wp2_with fail
      refine hla.mono ?_
      rintro e w3 ⟨rfl, f3⟩
      have HF3 : Hid (Fr (fun _ => False) w2 w3) := f3
      have htd := told_any a n c ims HN.out (by omega) w3 (HIM.out _ (F2.seq' f3))
      obtain ⟨nr, hnr⟩ : ∃ nr : Nat, nr = rs.length := ⟨_, rfl⟩
      have HNR : Hid (nr = rs.length) := hnr
      rw [← hnr]
      obtain ⟨le, hle⟩ : ∃ le, le = Re.lastE rs := ⟨_, rfl⟩
      rw [← hle]
      clear hla hnr hle f3
      go_wp2_with fail
      refine htd.mono ?_
      rintro e w4 ⟨ap, cp, lp, ab, cb, B, rfl, htd4, f4⟩
      have hps := htd4.ps
      have hbs := htd4.bs
      rw [List.take_length] at hps hbs
      have HPS : Hid (psOf lp = tolP ims) := hps
      have HBS : Hid (B = tolB ims) := hbs
      have hslp := htd4.sv.slots rfl
      have HSL : Hid (∀ W, Fr (fun _ => False) w4 W → Slots W ap cp lp) := fun W f => hslp.same f
      have hnw := newest_any ap lp.length cp lp rfl w4 hslp
      rw [mxP_of, hps] at hnw
      have HF4 : Hid (Fr (fun _ => False) w2 w4) := HF3.out.seq' f4
      have HFW4 : Hid (Fr (fun _ => False) w w4) := F2.seq' HF4.out
      have hlpf : lp.length ≤ 4096 := by
        have h1 := tolP_len ims
        rw [← hps, ps_length] at h1
        have := HN.out
        omega
      obtain ⟨np, hnp⟩ : ∃ np, np = lp.length := ⟨_, rfl⟩
      have HNP : Hid (np = lp.length) := hnp
      obtain ⟨nb, hnb⟩ : ∃ nb, nb = B.length := ⟨_, rfl⟩
      have HNB : Hid (nb = B.length) := hnb
      rw [← hnp] at hnw hlpf ⊢
      rw [← hnb]
      clear htd htd4 hps hbs hslp hnp hnb f4 F2
      go_wp2_with fail
      refine hnw.mono ?_
      rintro e w5 ⟨rfl, f5⟩
      obtain ⟨mx0, hmx⟩ : ∃ m, m = mxP (tolP ims) := ⟨_, rfl⟩
      rw [← hmx] at HO ⊢
      clear hnw hmx
      by_cases hgt : (nr : Int) < mx0
      · rw [← HNR.out, if_pos hgt] at HO
        have HF := HFW4.out.seq' f5
        go_wp2
        go_ret3
        exact bkr_no HO.out HF
      · rw [← HNR.out, if_neg hgt] at HO
        obtain ⟨fi, hfi⟩ : ∃ fi, fi = if tolB ims = [] then first else 1 := ⟨_, rfl⟩
        rw [← hfi] at HO
        have HFI : Hid (fi = if tolB ims = [] then first else 1) := hfi
        have hfb : -9223372036854775808 ≤ fi ∧ fi ≤ 9223372036854775807 := by
          have := HWF.out
          rw [hfi]
          split <;> omega
        clear hfi
        go_upto_if 44 with fail
        go_cut [2] (fun fv wc => fv = .int .i64 fi ∧ w5 = wc)
        case first =>
          by_cases hb : nb = 0
          · have hB : tolB ims = [] := by rw [← HBS.out]; exact List.eq_nil_of_length_eq_zero (by rw [← HNB.out]; exact hb)
            have hb2 : ¬ (0 : Int) < (nb : Int) := by omega
            have hf2 : Hid (fi = first) := by show fi = first; rw [HFI.out, if_pos hB]
            clear hb hB
            go_wp2
            go_meet
            exact ⟨by rw [hf2.out], rfl⟩
          · have hB : tolB ims ≠ [] := fun e => by rw [← HBS.out] at e; rw [e] at HNB; exact hb HNB.out
            have hb2 : (0 : Int) < (nb : Int) := by omega
            have hf2 : Hid (fi = 1) := by show fi = 1; rw [HFI.out, if_neg hB]
            clear hb hB
            go_wp2
            go_meet
            exact ⟨by rw [hf2.out], rfl⟩
        case rest =>
        obtain ⟨rfl, rfl⟩ := hcut
        have hrt := root_any ap np cp lp HNP.out (by omega) w5 (HSL.out _ f5)
        have HF5 : Hid (Fr (fun _ => False) w4 w5) := f5
        clear f5
        go_wp2_with fail
        refine hrt.mono ?_
        rintro e w6 ⟨a6, n6, c6, l6, rfl, hn6, hl6, hs6, f6⟩
        have HF6 : Hid (Fr (fun _ => False) w4 w6) := HF5.out.seq' f6
        have HS6 : Hid (n6 = l6.length ∧ l6 = rootL lp ∧ Slots w6 a6 c6 l6) := ⟨hn6, hl6, hs6⟩
        have hfr := Re.from_lg fi 65536 hfb lb rv rs _ w6 (HLG.out _ (HF4.out.seq' HF6.out)) HWL.out.big
        clear hrt hn6 hl6 hs6 f6
        go_wp2_with fail
        refine hfr.mono ?_
        rintro e w7 ⟨a7, c7, rfl, hr7, f7⟩
        have hrk : ∀ r ∈ Re.frF rs fi 65536, r.key.size ≤ 140737488351232 ∧ r.val.size ≤ 140737488351232 := fun r hr => by
          obtain ⟨i, hi⟩ := List.getElem?_of_mem (frF_mem hr)
          exact rok_small (HWL.out.each i r hi).1
        obtain ⟨R, hR⟩ : ∃ R, R = Re.frF rs fi 65536 := ⟨_, rfl⟩
        rw [← hR] at hr7 HO hrk ⊢
        have hrp := replay_any a6 a7 n6 c6 R.length c7 l6 R HS6.out.1 rfl hrk w7 (HS6.out.2.2.same f7) hr7
        rw [HS6.out.2.1, rootP_of, HPS.out] at hrp
        obtain ⟨⟨o1, o2⟩, ho⟩ : ∃ o, o = rplA (rootP (tolP ims)) R := ⟨_, rfl⟩
        rw [← ho] at hrp HO
        dsimp only at HO
        unfold RplOut at hrp
        dsimp only at hrp
        have HF7 : Hid (Fr (fun _ => False) w w7) := (HFW4.out.seq' HF6.out).seq' f7
        obtain ⟨nR, hnR⟩ : ∃ nR, nR = R.length := ⟨_, rfl⟩
        rw [← hnR] at hrp ⊢
        clear hfr hR hr7 hrk ho f7 hnR
        go_wp2_with fail
        refine hrp.mono ?_
        rintro e w8 ⟨a8, c8, l8, rfl, sv8, ps8, f8⟩
        have HF8 : Hid (Fr (fun _ => False) w w8) := HF7.out.seq' f8
        have HS8 : Hid (Sv w8 (.slice a8 l8.length c8) l8 ∧ psOf l8 = o1) := ⟨sv8, ps8⟩
        obtain ⟨n8, hn8⟩ : ∃ n8, n8 = l8.length := ⟨_, rfl⟩
        have HN8 : Hid (n8 = l8.length) := hn8
        rw [← hn8]
        by_cases h0 : o2 = 0
        · subst h0
          have hck := check_call a8 n8 c8 l8 HN8.out w8 (sv8.slots rfl)
          rw [ck_ps, ps8] at hck
          clear hrp sv8 ps8 f8 hn8
          by_cases hc0 : ckP o1 = 0
          · rw [if_pos ⟨rfl, hc0⟩] at HO
            rw [hc0] at hck
            clear hc0
            go_wp2_with fail
            refine hck.mono ?_
            rintro e w9 ⟨rfl, f9⟩
            have HFIN : Hid (BkR w (bkO ims lg first) (.returned (.tuple #[.slice a8 n8 c8, .int .i64 (nr : Int), .int .i64 0])) w9) := by
              show BkR _ _ _ _
              rw [HO.out]
              exact ⟨a8, c8, l8, by rw [← HN8.out], HS8.out.1.same f9, HS8.out.2, HF8.out.seq' f9⟩
            go_wp2
            go_ret3
            exact HFIN.out
          · rw [if_neg (fun h => hc0 h.2)] at HO
            have hcb : (ckP o1 != 0) = true := by simpa using hc0
            obtain ⟨cv, hcv⟩ : ∃ cv, cv = ckP o1 := ⟨_, rfl⟩
            rw [← hcv] at hck hcb
            clear hc0 hcv
            go_wp2_with fail
            refine hck.mono ?_
            rintro e w9 ⟨rfl, f9⟩
            have HF9 : Hid (Fr (fun _ => False) w w9) := HF8.out.seq' f9
            go_wp2
            go_ret3
            exact bkr_no HO.out HF9.out
        · rw [if_neg (fun h => h0 h.1)] at HO
          have hob : (o2 != 0) = true := by simpa using h0
          clear hrp sv8 ps8 f8 hn8 h0
          go_wp2
          go_ret3
          exact bkr_no HO.out HF8.out
end Go.Proofs.YtkibbojiflklpaaGreat

/- Restart: to come back again changes nothing: lists and numbers alone. -/
namespace Go.Proofs.YtkibbojiflklpaaGreat
open Go.RowKit

theorem rdAll_wl (b : List Nat) (ho : octs b) (f : Nat) (ls : List Rec) (n : Nat) (h : Re.Wl ls) : Re.Wl (Re.rdAll b f ls n).1 := by
  induction f generalizing ls n with
  | zero => exact h
  | succ f ih =>
    unfold Re.rdAll
    by_cases hm : Re.more b ls n = true
    · rw [if_pos hm]
      unfold Re.more at hm
      simp only [decide_eq_true_eq] at hm
      obtain ⟨h1, h2, h3⟩ := hm
      have hs := rdec_some (b.drop n) (fun x hx => ho x (List.mem_of_mem_drop hx)) (rdec (b.drop n)).1 (rdec (b.drop n)).2.1 (by
        rw [← h1])
      exact ih _ _ (Re.wl_snoc h _ hs.1 h2 h3)
    · rw [if_neg hm]; exact h
theorem wl_read (b : List Nat) (ho : octs b) : Re.Wl (Re.wread b).1 := rdAll_wl b ho _ _ _ Re.wl_nil
theorem mxP_fold (ps : List (Int × Nd)) (m M : Int) : (ps.foldl (fun m p => mx m p.2.lsn) m ≤ M) ↔ (m ≤ M ∧ ∀ p ∈ ps, p.2.lsn ≤ M) := by
  induction ps generalizing m with
  | nil => simp
  | cons p l ih =>
    rw [List.foldl_cons, ih]
    unfold mx
    constructor
    · rintro ⟨h1, h2⟩
      refine ⟨by omega, fun q hq => ?_⟩
      rcases List.mem_cons.1 hq with rfl | hq
      · omega
      · exact h2 q hq
    · rintro ⟨h1, h2⟩
      have := h2 p (by simp)
      exact ⟨by omega, fun q hq => h2 q (by simp [hq])⟩
theorem mxP_le {ps : List (Int × Nd)} {M : Int} (h0 : 0 ≤ M) : mxP ps ≤ M ↔ ∀ p ∈ ps, p.2.lsn ≤ M := by
  unfold mxP
  rw [mxP_fold]
  exact ⟨fun h => h.2, fun h => ⟨h0, h⟩⟩
/-- Images that are the pages' own bytes. -/
def imsOf (ps : List (Int × Nd)) (ims : List Im) : Prop := ims.map (fun i => (i.page, i.bs)) = ps.map (fun p => (p.1, pg p.2))
theorem ims_ri : ∀ (ps : List (Int × Nd)) (ims : List Im) (x : Int), imsOf ps ims → ariB x ps = true → riB x ims = true
  | [], [], _, _, _ => rfl
  | [], i :: l, _, h, _ => by cases h
  | p :: ps, [], _, h, _ => by cases h
  | (y, n) :: ps, i :: l, x, h, hr => by
    unfold imsOf at h
    rw [List.map_cons, List.map_cons] at h
    obtain ⟨h1, h2⟩ := List.cons.inj h
    simp only [Prod.mk.injEq] at h1
    simp only [ariB, Bool.and_eq_true, decide_eq_true_eq] at hr
    obtain ⟨⟨⟨a, b⟩, c⟩, d⟩ := hr
    simp only [riB, Bool.and_eq_true, decide_eq_true_eq]
    rw [h1.1]
    exact ⟨⟨a, b⟩, ims_ri ps l y h2 d⟩
theorem dec_right {n : Nd} (h : rightB n = true) : decF (pg n) = some n := by
  have r := (right_iff n).1 h
  refine dec_pg n r ?_
  have := nb_length r
  have := r.size
  omega
theorem ims_tol : ∀ (ps : List (Int × Nd)) (ims : List Im), imsOf ps ims → (∀ p ∈ ps, rightB p.2 = true) → tolP ims = ps ∧ tolB ims = []
  | [], [], _, _ => ⟨rfl, rfl⟩
  | [], i :: l, h, _ => by cases h
  | p :: ps, [], h, _ => by cases h
  | (y, n) :: ps, i :: l, h, hr => by
    unfold imsOf at h
    rw [List.map_cons, List.map_cons] at h
    obtain ⟨h1, h2⟩ := List.cons.inj h
    simp only [Prod.mk.injEq] at h1
    obtain ⟨e1, e2⟩ := ims_tol ps l h2 (fun p hp => hr p (by simp [hp]))
    have hd := dec_right (hr (y, n) (by simp))
    constructor
    · unfold tolP at e1 ⊢
      rw [List.flatMap_cons, h1.1, h1.2, hd, e1]
      rfl
    · unfold tolB at e2 ⊢
      rw [List.flatMap_cons, h1.2, e2]
      have : lkS (pg n) = 0 := by unfold lkS; rw [hd]; rfl
      rw [this]
      rfl
theorem root_keep {ps : List (Int × Nd)} (h : PsOk ps) (h1 : (getP ps 1).isSome = true) : rootP ps = ps := by
  cases ps with
  | nil => cases h1
  | cons p l =>
    unfold rootP
    by_cases e : p.1 = 1
    · exact if_pos e
    · exfalso
      obtain ⟨n, hn⟩ := Option.isSome_iff_exists.1 h1
      have hm := get_some hn
      rcases List.mem_cons.1 hm with h2 | h2
      · exact e (congrArg Prod.fst h2).symm
      · have h3 := h.1
        rw [List.map_cons, List.pairwise_cons] at h3
        have h4 := h3.1 1 (List.mem_map.2 ⟨_, h2, rfl⟩)
        have h5 := (h.2 p.1 (by simp)).1
        omega
theorem root_has (ps : List (Int × Nd)) : (getP (rootP ps) 1).isSome = true := by
  cases ps with
  | nil => rfl
  | cons p l =>
    show (getP (if p.1 = 1 then p :: l else (1, zn) :: p :: l) 1).isSome = true
    by_cases e : p.1 = 1
    · rw [if_pos e]; unfold getP; rw [if_pos e]; rfl
    · rw [if_neg e]; rfl
/-- What stands where one comes back. -/
theorem bk_yes {ims : List Im} {lg : List Nat} {first : Int} {ps : List (Int × Nd)} {n : Int} (h : bkO ims lg first = (ps, n, 0)) :
    1 ≤ first ∧ riB 0 ims = true ∧ mxP (tolP ims) ≤ ((Re.wread lg).1.length : Int) ∧ rplA (rootP (tolP ims)) (Re.frF (Re.wread lg).1 (if tolB ims = [] then first else 1) 65536) = (ps, 0) ∧ ckP ps = 0 ∧ n = (Re.wread lg).1.length := by
  unfold bkO at h
  by_cases h1 : first < 1 ∨ riB 0 ims = false
  · rw [if_pos h1] at h
    exact absurd (show (1 : Int) = 0 from congrArg (fun x => x.2.2) h) (by decide)
  · rw [if_neg h1] at h
    by_cases h2 : ((Re.wread lg).1.length : Int) < mxP (tolP ims)
    · rw [if_pos h2] at h
      exact absurd (show (100 : Int) = 0 from congrArg (fun x => x.2.2) h) (by decide)
    · rw [if_neg h2] at h
      generalize (if tolB ims = [] then first else 1) = fi at h ⊢
      split at h
      · rename_i h3
        simp only [Prod.mk.injEq, and_true] at h
        refine ⟨by omega, ?_, by omega, Prod.ext h.1 h3.1, by rw [← h.1]; exact h3.2, h.2.symm⟩
        cases hr : riB 0 ims
        · exact absurd (.inr hr) h1
        · rfl
      · exact absurd (show (130 : Int) = 0 from congrArg (fun x => x.2.2) h) (by decide)
theorem frF_all {ls : List Rec} (h : ls.length ≤ 65536) : Re.frF ls 1 65536 = ls := by
  unfold Re.frF
  rw [if_neg (by decide)]
  show (ls.drop 0).take 65536 = ls
  rw [List.drop_zero, List.take_of_length_le h]
theorem ck_ok {ps : List (Int × Nd)} (h : ckP ps = 0) : ariB 0 ps = true := by
  have := ck_right (ls := ps.map fun (p : Int × Nd) => (⟨p.1, p.2, zp⟩ : Sl)) h
  have e : psOf (ps.map fun (p : Int × Nd) => (⟨p.1, p.2, zp⟩ : Sl)) = ps := by
    unfold psOf
    rw [List.map_map]
    exact List.map_id ps
  rwa [e] at this
/-- TO COME BACK AGAIN CHANGES NOTHING. -/
theorem bk_again {ims ims2 : List Im} {lg : List Nat} {first : Int} {ps : List (Int × Nd)} {n : Int} (ho : octs lg) (h : bkO ims lg first = (ps, n, 0)) (h2 : imsOf ps ims2) : bkO ims2 lg first = (ps, n, 0) := by
  obtain ⟨a1, a2, a3, a4, a5, a6⟩ := bk_yes h
  have hwl := wl_read lg ho
  obtain ⟨rs, hrs⟩ : ∃ rs, rs = (Re.wread lg).1 := ⟨_, rfl⟩
  rw [← hrs] at a3 a4 a6 hwl
  have hari := ck_ok a5
  have hok := ari_psok hari
  have hrt := (ari_ok 0 _ hari).2.2
  obtain ⟨e1, e2⟩ := ims_tol ps ims2 h2 hrt
  have hri := ims_ri ps ims2 0 h2 hari
  have h0 : ariB 0 (rootP (tolP ims)) = true := by
    cases hh : ariB 0 (rootP (tolP ims))
    · unfold rplA at a4
      rw [hh, if_neg (by decide)] at a4
      exact absurd (show (70 : Int) = 0 from congrArg Prod.snd a4) (by decide)
    · rfl
  have hok0 := ari_psok h0
  have hrp : rplP (rootP (tolP ims)) (Re.frF rs (if tolB ims = [] then first else 1) 65536) = (ps, 0) := by
    unfold rplA at a4
    rwa [if_pos h0] at a4
  have hroot : rootP ps = ps := root_keep hok (rpl_there hok0 (root_has _) hrp)
  have hlsn : ∀ r ∈ rs, r.lsn ≤ (rs.length : Int) := fun r hr => by
    obtain ⟨i, hi⟩ := List.getElem?_of_mem hr
    have := (hwl.each i r hi).2
    have := (List.getElem?_eq_some_iff.1 hi).1
    omega
  have hm0 : ∀ p ∈ rootP (tolP ims), p.2.lsn ≤ (rs.length : Int) := by
    have h1 := (mxP_le (ps := tolP ims) (M := (rs.length : Int)) (by omega)).1 a3
    intro p hp
    unfold rootP at hp
    split at hp
    · rw [List.mem_singleton] at hp; subst hp; show (0 : Int) ≤ _; omega
    · rename_i q l hq
      split at hp
      · exact h1 p (by rw [hq]; exact hp)
      · rcases List.mem_cons.1 hp with h | h
        · subst h; show (0 : Int) ≤ _; omega
        · exact h1 p (by rw [hq]; exact h)
  have hmx : mxP ps ≤ (rs.length : Int) := (mxP_le (by omega)).2 (rpl_most (by omega) hm0 (fun r hr => hlsn r (frF_mem hr)) hrp)
  have hag : rplP ps (Re.frF rs first 65536) = (ps, 0) := by
    refine rpl_again hok hrt _ fun x hx => rpl_past hok0 hrp x (.inl ?_)
    by_cases hb : tolB ims = []
    · rw [if_pos hb]; exact hx
    · rw [if_neg hb, frF_all hwl.big]; exact frF_mem hx
  unfold bkO
  rw [← hrs, if_neg (by rw [hri]; simp; omega), e1, e2, if_neg (by omega), if_pos rfl, hroot]
  have hA : rplA ps (Re.frF rs first 65536) = (ps, 0) := by unfold rplA; rw [if_pos hari]; exact hag
  rw [hA, if_pos ⟨rfl, a5⟩, a6]
end Go.Proofs.YtkibbojiflklpaaGreat
