
/- The document's Replay. -/
import Derived.Test.YtlgceleelhppdaaGreatRpRight
namespace Go.Proofs.YtlgceleelhppdaaGreat
open Go.RowKit

/-- What the document's Replay tells. -/
def RrpOut (w : World) (o : List (Int × Nd) × Int) (e : Ending) (w' : World) : Prop := ∃ a' c' n' ls', e = .returned (.tuple #[.slice a' n' c', .int .i64 o.2]) ∧ n' = ls'.length ∧ Slots w' a' c' ls' ∧ psOf ls' = o.1 ∧ Fr (fun _ => False) w w'
theorem rrp_nil {w W : World} {o : List (Int × Nd) × Int} {err : Int} (h : o = ([], err)) (f : Fr (fun _ => False) w W) : RrpOut w o (.returned (.tuple #[.slice none 0 0, .int .i64 err])) W := by
  subst h
  exact ⟨none, 0, 0, [], rfl, rfl, ⟨Nat.le_refl _, by omega, .inl rfl, (fun s hs => by cases hs)⟩, rfl, f⟩
set_option maxRecDepth 100000 in
set_option maxHeartbeats 8000000 in
theorem rreplay_any (a a2 : Option Addr) (n c n2 c2 : Nat) (ls : List Sl) (rs : List Rec) (hn : n = ls.length) (hn2 : n2 = rs.length) (hz : ∀ r ∈ rs, r.key.size ≤ 140737488351232 ∧ r.val.size ≤ 140737488351232) (w : World) (h : Slots w a c ls) (h2 : Recs w a2 c2 rs) :
    Calls Tryz.prog 5 #[.slice a n c, .slice a2 n2 c2] w fun e w' => RrpOut w (rplA (psOf ls) rs) e w' := by
  have har := rpright_any a n c ls hn w h
  cases hok : ariB 0 (psOf ls)
  · rw [hok] at har
    have HEV : Hid (rplA (psOf ls) rs = ([], 70)) := by show _ = _; unfold rplA; rw [hok]; rfl
    clear hok hz h h2 hn hn2
    go_enter Tryz.func5, Tryz.ntmps5
    go_wp2_with fail
    refine har.mono ?_
    rintro e w1 ⟨rfl, f1⟩
    clear har
    go_wp2
    go_ret2
    exact rrp_nil HEV.out f1
  · rw [hok] at har
    have HEV : Hid (rplA (psOf ls) rs = rplP (psOf ls) rs) := by show _ = _; unfold rplA; rw [hok]; rfl
    have HPS : Hid (PsOk (psOf ls)) := ari_psok hok
    have HSL : Hid (∀ W, Fr (fun _ => False) w W → Slots W a c ls) := fun W f => h.same f
    have HRS : Hid (∀ W, Fr (fun _ => False) w W → Recs W a2 c2 rs) := fun W f => h2.same f
    have hle2 : n2 ≤ c2 := by rw [hn2]; exact h2.le
    have hm2 := h2.max
    have HN : Hid (n = ls.length) := hn
    have HN2 : Hid (n2 = rs.length) := hn2
    have HZ : Hid (∀ r ∈ rs, r.key.size ≤ 140737488351232 ∧ r.val.size ≤ 140737488351232) := hz
    clear hok hz h h2 hn hn2
    go_enter Tryz.func5, Tryz.ntmps5
    go_wp2_with fail
    refine har.mono ?_
    rintro e w1 ⟨rfl, f1⟩
    clear har
    have HF1 : Hid (Fr (fun _ => False) w w1) := f1
    clear f1
    go_wp2
    go_loopw [20, 6] (fun i l wr => ∃ (j m : Nat) (a' : Option Addr) (c' : Nat) (lq : List Sl), j ≤ n2 ∧ i = .int .i64 j ∧ l = .slice a' m c' ∧ Hid (m = lq.length) ∧ Hid (rplP (psOf lq) (rs.drop j) = rplP (psOf ls) rs) ∧ Hid (PsOk (psOf lq)) ∧ Hid (Slots wr a' c' lq) ∧ Fr (fun _ => False) w wr) (fun i _ _ => n2 - (intOf i).toNat)
    case atStart => exact ⟨0, n, a, c, ls, by omega, rfl, rfl, HN, rfl, HPS, HSL.out _ HF1.out, HF1.out⟩
    case round =>
      obtain ⟨j, m, a', c', lq, hj, rfl, rfl, HM, HE, HQ, HV, F⟩ := hrel
      by_cases hlt : j < n2
      · obtain ⟨r, hr⟩ : ∃ r, rs[j]? = some r := ⟨_, List.getElem?_eq_getElem (by have := HN2.out; omega)⟩
        obtain ⟨bb, off, rfl, hbb, hcc⟩ := (HRS.out _ F).some (by have := HN2.out; omega)
        obtain ⟨q0, q1, q2, q3, q4, q5, q6, q7⟩ := rec_range (hcc j r hr)
        have HNX : Hid (rplP (psOf lq) (rs.drop j) = if rpE (psOf lq) r = 0 then rplP (rpP (psOf lq) r) (rs.drop (j + 1)) else ([], rpE (psOf lq) r)) := rpl_next (psOf lq) hr
        have HZR : Hid (r.key.size ≤ 140737488351232 ∧ r.val.size ≤ 140737488351232) := HZ.out r (List.mem_of_getElem? hr)
        have FB := F.alloc (.cells #[.int .i64 r.lsn, .int .i64 r.ep, .int .i64 r.kind, .int .i64 r.page, .int .i64 r.other, .int .i64 r.req, .string r.key, .string r.val] 48)
        have HT : Hid (∀ W, Fr (fun _ => False) (wr.alloc (.cells #[.int .i64 r.lsn, .int .i64 r.ep, .int .i64 r.kind, .int .i64 r.page, .int .i64 r.other, .int .i64 r.req, .string r.key, .string r.val] 48)) W → W.heap[wr.heap.size]? = some (.cells #[.int .i64 r.lsn, .int .i64 r.ep, .int .i64 r.kind, .int .i64 r.page, .int .i64 r.other, .int .i64 r.req, .string r.key, .string r.val] 48 (0, 0))) := fun W f => f.blk (heap_alloc_new wr _) (fun f => f)
        have HVV : Hid (∀ W, Fr (fun _ => False) (wr.alloc (.cells #[.int .i64 r.lsn, .int .i64 r.ep, .int .i64 r.kind, .int .i64 r.page, .int .i64 r.other, .int .i64 r.req, .string r.key, .string r.val] 48)) W → Slots W a' c' lq) := fun W f => (HV.out.same (Fr.box wr _)).same f
        have hji : (j : Int) < (n2 : Int) := by omega
        have HST : Hid (rpE (psOf lq) r = 0 → PsOk (rpP (psOf lq) r)) := HQ.out.step r
        have hid := ridle_any r
        have hrg := right_any r
        have HFW : Hid (m ≤ 10000) := by show _ ≤ _; have := HQ.out.few; rw [ps_length] at this; have := HM.out; omega
        clear hr hcc
        cases hi : idleB r.kind
        · have hsk : skipB r = false := by unfold skipB; rw [hi]; rfl
          rw [hi] at hid
          clear hi
          go_wp2_with fail
          refine (hid _).mono ?_
          rintro e w3 ⟨rfl, F3⟩
          clear hid hrg q0 q1 q2 q3 q4 q5 q6 q7
          have HGO := go_step hsk HQ.out
          obtain ⟨⟨r0, r1, r2, r3, r4, r5, r6, r7⟩, _⟩ := rec_cells (HT.out _ F3)
          have hfd := rfind_any a' m c' lq r.page HM.out _ (HVV.out _ F3)
          unfold FdOut at hfd
          obtain ⟨o, ho⟩ : ∃ o, o = fnd (psOf lq) r.page := ⟨_, rfl⟩
          rw [← ho] at hfd HGO
          clear ho hsk
          have HGO2 : Hid (rpE (psOf lq) r = apE (fdN o) (fdB o) r ∧ (apE (fdN o) (fdB o) r = 0 → rpP (psOf lq) r = wthF r.page (apN (fdN o) (fdB o) r) false (psOf lq))) := HGO
          clear HGO
          go_wp2_with fail
          refine hfd.mono ?_
          rintro e w4 ⟨nm, nb, q, rfl, hnm, hnb, nd, f4⟩
          rw [← hnm, ← hnb] at HGO2
          clear hfd hnm hnb r0 r1 r2 r3 r4 r5 r6 r7
          have fc := Fr.box w4 (.cells #[.int .i64 nm.lev, .int .i64 nm.lsn, .int .i64 nm.rgt, .string nm.high, .slice q.k nm.keys.length q.kc, .slice q.v nm.vals.length q.vc, .slice q.i nm.kids.length q.ic] 34)
          have F4 := (F3.seq' f4).seq' fc
          obtain ⟨c0, c1, c2, c3, c4, c5, c6⟩ := box_cells (heap_alloc_new w4 (.cells #[.int .i64 nm.lev, .int .i64 nm.lsn, .int .i64 nm.rgt, .string nm.high, .slice q.k nm.keys.length q.kc, .slice q.v nm.vals.length q.vc, .slice q.i nm.kids.length q.ic] 34))
          obtain ⟨⟨r0, r1, r2, r3, r4, r5, r6, r7⟩, _⟩ := rec_cells (HT.out _ F4)
          have hap := rapply_any nm q nb r HZR.out.1 HZR.out.2 _ (nd.same fc)
          unfold ApOutR at hap
          obtain ⟨er, her⟩ : ∃ x, x = apE nm nb r := ⟨_, rfl⟩
          obtain ⟨xm, hxm⟩ : ∃ x, x = apN nm nb r := ⟨_, rfl⟩
          obtain ⟨xd, hxd⟩ : ∃ x, x = apD nm nb r := ⟨_, rfl⟩
          rw [← her, ← hxm] at HGO2
          rw [← her, ← hxm, ← hxd] at hap
          clear her hxm hxd
          go_wp2_with fail
          refine hap.mono ?_
          rintro e w5 ⟨q5, rfl, nd5, f5, _⟩
          clear hap c0 c1 c2 c3 c4 c5 c6 r0 r1 r2 r3 r4 r5 r6 r7
          have fd := Fr.box w5 (.cells #[.int .i64 xm.lev, .int .i64 xm.lsn, .int .i64 xm.rgt, .string xm.high, .slice q5.k xm.keys.length q5.kc, .slice q5.v xm.vals.length q5.vc, .slice q5.i xm.kids.length q5.ic] 34)
          have F5 := (F4.seq' f5).seq' fd
          by_cases h0 : er = 0
          · subst h0
            have hb0 : ((0 : Int) != 0) = false := by decide
            obtain ⟨c0, c1, c2, c3, c4, c5, c6⟩ := box_cells (heap_alloc_new w5 (.cells #[.int .i64 xm.lev, .int .i64 xm.lsn, .int .i64 xm.rgt, .string xm.high, .slice q5.k xm.keys.length q5.kc, .slice q5.v xm.vals.length q5.vc, .slice q5.i xm.kids.length q5.ic] 34))
            obtain ⟨⟨r0, r1, r2, r3, r4, r5, r6, r7⟩, _⟩ := rec_cells (HT.out _ F5)
            have hwt := rwith_any a' m c' lq r.page xm q5 HM.out HFW.out _ (HVV.out _ F5) (nd5.same fd)
            rw [← HGO2.out.2 rfl] at hwt
            have HNX2 : Hid (rplP (psOf lq) (rs.drop j) = rplP (rpP (psOf lq) r) (rs.drop (j + 1))) := by show _ = _; rw [HNX.out, if_pos HGO2.out.1]
            have HOK : Hid (PsOk (rpP (psOf lq) r)) := HST.out HGO2.out.1
            clear HNX HST HGO2
            obtain ⟨pp, hpp⟩ : ∃ x, x = rpP (psOf lq) r := ⟨_, rfl⟩
            rw [← hpp] at hwt HNX2 HOK
            clear hpp
            unfold WthOut at hwt
            go_wp2_with fail
            refine hwt.mono ?_
            rintro e w6 ⟨a6, c6', n6, l6, rfl, hn6, sl6, ps6, f6⟩
            have HM6 : Hid (n6 = l6.length) := hn6
            have HV6 : Hid (Slots w6 a6 c6' l6) := sl6
            have HE6 : Hid (rplP (psOf l6) (rs.drop (j + 1)) = rplP (psOf ls) rs) := by show _ = _; rw [ps6, ← HNX2.out]; exact HE.out
            have HQ6 : Hid (PsOk (psOf l6)) := by show PsOk _; rw [ps6]; exact HOK.out
            have F6 := FB.seq' (F5.seq' f6)
            clear hwt hn6 sl6 ps6 f6 c0 c1 c2 c3 c4 c5 c6 r0 r1 r2 r3 r4 r5 r6 r7
            go_wp2
            go_roundw
            case rel => exact ⟨j + 1, n6, a6, c6', l6, by omega, by go_num, rfl, HM6, HE6, HQ6, HV6, F6⟩
            case measure => simp [intOf]; omega
          · have hb0 : (er != 0) = true := by simpa using h0
            have HEN : Hid (rplA (psOf ls) rs = ([], er)) := by show _ = _; rw [HEV.out, ← HE.out, HNX.out, HGO2.out.1, if_neg h0]
            have F6 := FB.seq' F5
            clear h0 HNX HST HGO2
            go_wp2
            go_ret2
            exact rrp_nil HEN.out F6
        · rw [hi] at hid
          cases hro : rok r
          · have hsk : skipB r = false := by unfold skipB; rw [hi, hro]; rfl
            rw [hro] at hrg
            clear hi hro
            go_wp2_with fail
            refine (hid _).mono ?_
            rintro e w2 ⟨rfl, F2⟩
            clear q0 q1 q2 q3 q4 q5 q6 q7
            obtain ⟨⟨r0, r1, r2, r3, r4, r5, r6, r7⟩, _⟩ := rec_cells (HT.out _ F2)
            go_wp2_with fail
            refine (hrg _).mono ?_
            rintro e w3 ⟨rfl, f3⟩
            have F3 := F2.seq' f3
            clear hid hrg r0 r1 r2 r3 r4 r5 r6 r7
            have HGO := go_step hsk HQ.out
            obtain ⟨⟨r0, r1, r2, r3, r4, r5, r6, r7⟩, _⟩ := rec_cells (HT.out _ F3)
            have hfd := rfind_any a' m c' lq r.page HM.out _ (HVV.out _ F3)
            unfold FdOut at hfd
            obtain ⟨o, ho⟩ : ∃ o, o = fnd (psOf lq) r.page := ⟨_, rfl⟩
            rw [← ho] at hfd HGO
            clear ho hsk
            have HGO2 : Hid (rpE (psOf lq) r = apE (fdN o) (fdB o) r ∧ (apE (fdN o) (fdB o) r = 0 → rpP (psOf lq) r = wthF r.page (apN (fdN o) (fdB o) r) false (psOf lq))) := HGO
            clear HGO
            go_wp2_with fail
            refine hfd.mono ?_
            rintro e w4 ⟨nm, nb, q, rfl, hnm, hnb, nd, f4⟩
            rw [← hnm, ← hnb] at HGO2
            clear hfd hnm hnb r0 r1 r2 r3 r4 r5 r6 r7
            have fc := Fr.box w4 (.cells #[.int .i64 nm.lev, .int .i64 nm.lsn, .int .i64 nm.rgt, .string nm.high, .slice q.k nm.keys.length q.kc, .slice q.v nm.vals.length q.vc, .slice q.i nm.kids.length q.ic] 34)
            have F4 := (F3.seq' f4).seq' fc
            obtain ⟨c0, c1, c2, c3, c4, c5, c6⟩ := box_cells (heap_alloc_new w4 (.cells #[.int .i64 nm.lev, .int .i64 nm.lsn, .int .i64 nm.rgt, .string nm.high, .slice q.k nm.keys.length q.kc, .slice q.v nm.vals.length q.vc, .slice q.i nm.kids.length q.ic] 34))
            obtain ⟨⟨r0, r1, r2, r3, r4, r5, r6, r7⟩, _⟩ := rec_cells (HT.out _ F4)
            have hap := rapply_any nm q nb r HZR.out.1 HZR.out.2 _ (nd.same fc)
            unfold ApOutR at hap
            obtain ⟨er, her⟩ : ∃ x, x = apE nm nb r := ⟨_, rfl⟩
            obtain ⟨xm, hxm⟩ : ∃ x, x = apN nm nb r := ⟨_, rfl⟩
            obtain ⟨xd, hxd⟩ : ∃ x, x = apD nm nb r := ⟨_, rfl⟩
            rw [← her, ← hxm] at HGO2
            rw [← her, ← hxm, ← hxd] at hap
            clear her hxm hxd
            go_wp2_with fail
            refine hap.mono ?_
            rintro e w5 ⟨q5, rfl, nd5, f5, _⟩
            clear hap c0 c1 c2 c3 c4 c5 c6 r0 r1 r2 r3 r4 r5 r6 r7
            have fd := Fr.box w5 (.cells #[.int .i64 xm.lev, .int .i64 xm.lsn, .int .i64 xm.rgt, .string xm.high, .slice q5.k xm.keys.length q5.kc, .slice q5.v xm.vals.length q5.vc, .slice q5.i xm.kids.length q5.ic] 34)
            have F5 := (F4.seq' f5).seq' fd
            by_cases h0 : er = 0
            · subst h0
              have hb0 : ((0 : Int) != 0) = false := by decide
              obtain ⟨c0, c1, c2, c3, c4, c5, c6⟩ := box_cells (heap_alloc_new w5 (.cells #[.int .i64 xm.lev, .int .i64 xm.lsn, .int .i64 xm.rgt, .string xm.high, .slice q5.k xm.keys.length q5.kc, .slice q5.v xm.vals.length q5.vc, .slice q5.i xm.kids.length q5.ic] 34))
              obtain ⟨⟨r0, r1, r2, r3, r4, r5, r6, r7⟩, _⟩ := rec_cells (HT.out _ F5)
              have hwt := rwith_any a' m c' lq r.page xm q5 HM.out HFW.out _ (HVV.out _ F5) (nd5.same fd)
              rw [← HGO2.out.2 rfl] at hwt
              have HNX2 : Hid (rplP (psOf lq) (rs.drop j) = rplP (rpP (psOf lq) r) (rs.drop (j + 1))) := by show _ = _; rw [HNX.out, if_pos HGO2.out.1]
              have HOK : Hid (PsOk (rpP (psOf lq) r)) := HST.out HGO2.out.1
              clear HNX HST HGO2
              obtain ⟨pp, hpp⟩ : ∃ x, x = rpP (psOf lq) r := ⟨_, rfl⟩
              rw [← hpp] at hwt HNX2 HOK
              clear hpp
              unfold WthOut at hwt
              go_wp2_with fail
              refine hwt.mono ?_
              rintro e w6 ⟨a6, c6', n6, l6, rfl, hn6, sl6, ps6, f6⟩
              have HM6 : Hid (n6 = l6.length) := hn6
              have HV6 : Hid (Slots w6 a6 c6' l6) := sl6
              have HE6 : Hid (rplP (psOf l6) (rs.drop (j + 1)) = rplP (psOf ls) rs) := by show _ = _; rw [ps6, ← HNX2.out]; exact HE.out
              have HQ6 : Hid (PsOk (psOf l6)) := by show PsOk _; rw [ps6]; exact HOK.out
              have F6 := FB.seq' (F5.seq' f6)
              clear hwt hn6 sl6 ps6 f6 c0 c1 c2 c3 c4 c5 c6 r0 r1 r2 r3 r4 r5 r6 r7
              go_wp2
              go_roundw
              case rel => exact ⟨j + 1, n6, a6, c6', l6, by omega, by go_num, rfl, HM6, HE6, HQ6, HV6, F6⟩
              case measure => simp [intOf]; omega
            · have hb0 : (er != 0) = true := by simpa using h0
              have HEN : Hid (rplA (psOf ls) rs = ([], er)) := by show _ = _; rw [HEV.out, ← HE.out, HNX.out, HGO2.out.1, if_neg h0]
              have F6 := FB.seq' F5
              clear h0 HNX HST HGO2
              go_wp2
              go_ret2
              exact rrp_nil HEN.out F6
          · have hsk : skipB r = true := by unfold skipB; rw [hi, hro]; rfl
            obtain ⟨hs1, hs2⟩ := skip_step hsk HQ.out
            have HE6 : Hid (rplP (psOf lq) (rs.drop (j + 1)) = rplP (psOf ls) rs) := by show _ = _; rw [← HE.out, HNX.out, if_pos hs1, hs2]
            rw [hro] at hrg
            clear hi hro hsk hs1 hs2 HNX HST
            go_wp2_with fail
            refine (hid _).mono ?_
            rintro e w2 ⟨rfl, F2⟩
            clear q0 q1 q2 q3 q4 q5 q6 q7
            obtain ⟨⟨r0, r1, r2, r3, r4, r5, r6, r7⟩, _⟩ := rec_cells (HT.out _ F2)
            go_wp2_with fail
            refine (hrg _).mono ?_
            rintro e w3 ⟨rfl, f3⟩
            have F3 := F2.seq' f3
            have HV6 : Hid (Slots w3 a' c' lq) := HVV.out _ F3
            have F6 := FB.seq' F3
            clear hid hrg r0 r1 r2 r3 r4 r5 r6 r7 F2 f3
            go_wp2
            go_roundw
            case rel => exact ⟨j + 1, m, a', c', lq, by omega, by go_num, rfl, HM, HE6, HQ, HV6, F6⟩
            case measure => simp [intOf]; omega
      · obtain rfl : j = n2 := by omega
        have HEN : Hid (rplA (psOf ls) rs = (psOf lq, 0)) := by
          show _ = _
          rw [HEV.out, ← HE.out, List.drop_of_length_le (by have := HN2.out; omega)]; rfl
        have HFIN : Hid (RrpOut w (rplA (psOf ls) rs) (.returned (.tuple #[.slice a' m c', .int .i64 0])) wr) := by
          show RrpOut _ _ _ _
          rw [HEN.out]
          exact ⟨a', c', m, lq, rfl, HM.out, HV.out, rfl, F⟩
        go_wp2
        go_ret2
        exact HFIN.out
end Go.Proofs.YtlgceleelhppdaaGreat
