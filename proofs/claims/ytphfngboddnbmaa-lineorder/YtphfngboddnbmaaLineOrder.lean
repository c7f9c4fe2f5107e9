
/- For any two timelines and any mark: one of both is newer or both have the same last epoch and LSN, a timeline that goes on is not older than it was, and the example speaks; with no condition but those of the statement's own form. -/
import Derived.Test.YtphfngboddnbmaaArgs
import Derived.Test.YtphfngboddnbmaaLnLaw
import Derived.Test.YtphfngboddnbmaaLnArg
namespace Go.Proofs.Ytphfngboddnbmaa.lineOrder
open Go.ChangeShapes Go.WideShapes Go.ChangeAt Go.RowKit
open Go.ChangeMaps (open_string shut_string)
set_option linter.unusedVariables false

theorem own : ownKnob Try.prog.godebug = none := by kernel_rfl
theorem laidOut : laidOutB Try.prog = true := by kernel_rfl
theorem bytes8 : Try.prog.bytesOf 5 = 1 := by kernel_rfl

open Go.RowKit Go.Proofs.Ytphfngboddnbmaa.Ln
theorem three_boxes (w : World) (t u : TypeId) (x y x' y' p q : Value) : Two (((w.alloc (.cells #[x, y] t)).alloc (.cells #[x', y'] t)).alloc (.cells #[p, q] u)) w.heap.size t x y ∧ Two (((w.alloc (.cells #[x, y] t)).alloc (.cells #[x', y'] t)).alloc (.cells #[p, q] u)) (w.heap.size + 1) t x' y' ∧ Two (((w.alloc (.cells #[x, y] t)).alloc (.cells #[x', y'] t)).alloc (.cells #[p, q] u)) (w.heap.size + 1 + 1) u p q ∧ Fr (fun _ => False) w (((w.alloc (.cells #[x, y] t)).alloc (.cells #[x', y'] t)).alloc (.cells #[p, q] u)) := by
  obtain ⟨h1, h2, h3⟩ := two_boxes w t x y x' y'
  refine ⟨h1.fr (Fr.box _ _) (fun f => f), h2.fr (Fr.box _ _) (fun f => f), ?_, h3.alloc _⟩
  have := Two.new ((w.alloc (.cells #[x, y] t)).alloc (.cells #[x', y'] t)) u p q
  rw [World.size_alloc, World.size_alloc] at this
  exact this
set_option maxRecDepth 100000 in
set_option maxHeartbeats 8000000 in
theorem walk (w : World) (a : Option Addr) (c : Nat) (ms : List Mk) (last : Int) (h : Mks w a c ms) (a' : Option Addr) (c' : Nat) (ns : List Mk) (lst : Int) (h' : Mks w a' c' ns) (mk : Mk) :
    Calls Try.prog 6 #[.agg #[.slice a ms.length c, .int .i64 last], .agg #[.slice a' ns.length c', .int .i64 lst], .agg #[.int .i64 mk.1, .int .i64 mk.2]] w fun e w' => e = .returned (.bool true) ∧ Fr (fun _ => False) w w' := by
  obtain ⟨ep, x⟩ := mk
  dsimp only
  obtain ⟨T1, T2, T3, F1⟩ := three_boxes w 24 53 (.slice a ms.length c) (.int .i64 last) (.slice a' ns.length c') (.int .i64 lst) (.int .i64 ep) (.int .i64 x)
  have HSP : Hid (∀ W, Calls Try.prog 16 #[] W fun e w' => e = .returned (.bool true) ∧ Fr (fun _ => False) W w') := speaks_any
  have HNW : Hid (∀ W, Fr (fun _ => False) w W → Calls Try.prog 12 #[.agg #[.slice a ms.length c, .int .i64 last], .agg #[.slice a' ns.length c', .int .i64 lst]] W fun e w' => e = .returned (.tuple #[.bool (nwB ms last ns lst), .int .i64 (arE ms last ns lst)]) ∧ Fr (fun _ => False) W w') := fun W f => newer_any a a' _ _ c c' ms ns last lst rfl rfl W (h.same f) (h'.same f)
  have HNB : Hid (∀ W, Fr (fun _ => False) w W → Calls Try.prog 12 #[.agg #[.slice a' ns.length c', .int .i64 lst], .agg #[.slice a ms.length c, .int .i64 last]] W fun e w' => e = .returned (.tuple #[.bool (nwB ns lst ms last), .int .i64 (arE ms last ns lst)]) ∧ Fr (fun _ => False) W w') := fun W f => by
    have := newer_any a' a _ _ c' c ns ms lst last rfl rfl W (h'.same f) (h.same f)
    rw [(both_comm ms last ns lst).1] at this
    exact this
  have HQ : Hid (∀ W, Fr (fun _ => False) (((w.alloc (.cells #[.slice a ms.length c, .int .i64 last] 24)).alloc (.cells #[.slice a' ns.length c', .int .i64 lst] 24)).alloc (.cells #[.int .i64 ep, .int .i64 x] 53)) W → (W.cell? ⟨w.heap.size, 0, none⟩ = some (.slice a ms.length c) ∧ W.cell? ⟨w.heap.size, 1, none⟩ = some (.int .i64 last)) ∧ W.cell? ⟨w.heap.size + 1, 0, none⟩ = some (.slice a' ns.length c') ∧ W.cell? ⟨w.heap.size + 1, 1, none⟩ = some (.int .i64 lst)) := fun W f => ⟨(T1.fr f (fun f => f)).fst, (T2.fr f (fun f => f)).fst⟩
  obtain ⟨x0, x1, _⟩ := T1.cells
  obtain ⟨y0, y1, _⟩ := T2.cells
  obtain ⟨z0, z1, _⟩ := T3.cells
  cases cl : (linB ms last && linB ns lst)
  · have cl' : (linB ns lst && linB ms last) = false := by rw [Bool.and_comm]; exact cl
    rw [(arE_no cl).1, nwB_no cl] at HNW
    rw [(arE_no cl).1, nwB_no cl'] at HNB
    have h1 := HNW.out _ F1
    generalize ms.length = n at *
    generalize ns.length = n' at *
    clear h h' T1 T2 T3 cl cl'
    go_enter Try.func6, Try.ntmps6
    go_wp2_with fail
    generalize (((w.alloc (.cells #[.slice a n c, .int .i64 last] 24)).alloc (.cells #[.slice a' n' c', .int .i64 lst] 24)).alloc (.cells #[.int .i64 ep, .int .i64 x] 53)) = V at *
    have HF1 : Hid (Fr (fun _ => False) w V) := F1
    refine h1.mono ?_
    rintro e w1 ⟨rfl, f1⟩
    clear h1 x0 x1 y0 y1 z0 z1
    obtain ⟨⟨x0, x1⟩, y0, y1⟩ := HQ.out _ f1
    go_wp2_with fail
    refine (HNB.out _ (HF1.out.seq' f1)).mono ?_
    rintro e w2 ⟨rfl, f2⟩
    go_wp2_with fail
    refine (HSP.out _).mono ?_
    rintro e w3 ⟨rfl, f3⟩
    go_wp2
    go_ret
    exact ⟨by simp, HF1.out.seq' ((f1.seq' f2).seq' f3)⟩
  · obtain ⟨B1, B2⟩ := new_both cl
    have cl1 : linB ms last = true := (Bool.and_eq_true _ _ ▸ cl : _ ∧ _).1
    rw [(arE_yes cl).1] at HNW HNB
    have HA1 : Hid (∀ W, Fr (fun _ => False) w W → Calls Try.prog 7 #[.agg #[.slice a ms.length c, .int .i64 last], .int .i64 last] W fun e w' => e = .returned (.tuple #[.int .i64 (atN ms last last), .int .i64 (rcE ms last last)]) ∧ Fr (fun _ => False) W w') := fun W k => at_any a _ c ms last last rfl W (h.same k)
    have HA2 : Hid (∀ W, Fr (fun _ => False) w W → Calls Try.prog 7 #[.agg #[.slice a' ns.length c', .int .i64 lst], .int .i64 lst] W fun e w' => e = .returned (.tuple #[.int .i64 (atN ns lst lst), .int .i64 (rcE ns lst lst)]) ∧ Fr (fun _ => False) W w') := fun W k => at_any a' _ c' ns lst lst rfl W (h'.same k)
    have HGR : Hid (∀ W, Fr (fun _ => False) w W → Calls Try.prog 19 #[.agg #[.slice a ms.length c, .int .i64 last], .int .i64 ep, .int .i64 x] W fun e w' => LnOut W (groM ms last ep x) (groL ms last ep x) (groE ms last ep x) e w') := fun W f => grow_any a _ c ms last ep x rfl W (h.same f)
    have HGA : Hid (groE ms last ep x = 0 → (∀ (b : Option Addr) (d : Nat) (W : World), Fr (fun _ => False) w W → Mks W b d (groM ms last ep x) → Calls Try.prog 12 #[.agg #[.slice a ms.length c, .int .i64 last], .agg #[.slice b (groM ms last ep x).length d, .int .i64 (groL ms last ep x)]] W fun e w' => e = .returned (.tuple #[.bool false, .int .i64 0]) ∧ Fr (fun _ => False) W w') ∧ (∀ (b : Option Addr) (d : Nat) (W : World), Fr (fun _ => False) w W → Mks W b d (groM ms last ep x) → Calls Try.prog 10 #[.agg #[.slice a ms.length c, .int .i64 last], .agg #[.slice b (groM ms last ep x).length d, .int .i64 (groL ms last ep x)]] W fun e w' => e = .returned (.tuple #[.int .i64 last, .int .i64 0]) ∧ Fr (fun _ => False) W w') ∧ (∀ (b : Option Addr) (d : Nat) (W : World), Mks W b d (groM ms last ep x) → Calls Try.prog 14 #[.agg #[.slice b (groM ms last ep x).length d, .int .i64 (groL ms last ep x)]] W fun e w' => e = .returned (.int .i64 0) ∧ Fr (fun _ => False) W w')) := fun hE => by
      obtain ⟨k1, k2, k3, k4⟩ := gro_all cl1 hE
      refine ⟨fun b d W f m => ?_, fun b d W f m => ?_, fun b d W m => ?_⟩
      · have := newer_any a b _ _ c d ms _ last (groL ms last ep x) rfl rfl W (h.same f) m
        rw [k1, k2] at this; exact this
      · have := fork_any a b _ _ c d ms _ last (groL ms last ep x) rfl rfl W (h.same f) m
        rw [k2, k3] at this; exact this
      · have := check_any b _ d _ (groL ms last ep x) rfl W m
        rw [k4] at this; exact this
    generalize nwB ms last ns lst = X at *
    generalize nwB ns lst ms last = Y at *
    generalize atN ms last last = p at *
    generalize atN ns lst lst = q at *
    generalize rcE ms last last = pe at *
    generalize rcE ns lst lst = qe at *
    generalize groM ms last ep x = G at *
    generalize groL ms last ep x = gl at *
    generalize groE ms last ep x = ge at *
    have h1 := HNW.out _ F1
    generalize ms.length = n at *
    generalize ns.length = n' at *
    have HB1 : Hid (X = true → Y = false) := B1
    have HB2 : Hid (X = false → Y = false → p = q ∧ last = lst) := B2
    clear h h' T1 T2 T3 cl cl1 B1 B2
    go_enter Try.func6, Try.ntmps6
    go_wp2_with fail
    generalize (((w.alloc (.cells #[.slice a n c, .int .i64 last] 24)).alloc (.cells #[.slice a' n' c', .int .i64 lst] 24)).alloc (.cells #[.int .i64 ep, .int .i64 x] 53)) = V at *
    have HF1 : Hid (Fr (fun _ => False) w V) := F1
    refine h1.mono ?_
    rintro e w1 ⟨rfl, f1⟩
    clear h1 x0 x1 y0 y1 z0 z1
    obtain ⟨⟨x0, x1⟩, y0, y1⟩ := HQ.out _ f1
    go_wp2_with fail
    refine (HNB.out _ (HF1.out.seq' f1)).mono ?_
    rintro e w2 ⟨rfl, f2⟩
    have G2 := f1.seq' f2
    clear x0 x1 y0 y1 f1 f2
    obtain ⟨⟨x0, x1⟩, y0, y1⟩ := HQ.out _ G2
    go_wp2_with fail
    refine (HA1.out _ (HF1.out.seq' G2)).mono ?_
    rintro e w3 ⟨rfl, f3⟩
    have G3 := G2.seq' f3
    clear x0 x1 y0 y1 G2 f3
    obtain ⟨⟨x0, x1⟩, y0, y1⟩ := HQ.out _ G3
    go_wp2_with fail
    refine (HA2.out _ (HF1.out.seq' G3)).mono ?_
    rintro e w4 ⟨rfl, f4⟩
    have G4 := G3.seq' f4
    clear x0 x1 y0 y1 G3 f4
    obtain ⟨⟨x0, x1⟩, y0, y1⟩ := HQ.out _ G4
    go_upto_region 9 with fail
    go_cut [96] (fun b wc => b = .bool false ∧ w4 = wc)
    case first =>
      cases X
      · cases Y
        · obtain ⟨e1, e2⟩ := HB2.out rfl rfl
          have k1 : (p != q) = false := by rw [e1]; simp
          have k2 : (last != lst) = false := by rw [e2]; simp
          clear e1 e2
          go_wp2
          go_meet
          exact ⟨rfl, rfl⟩
        · go_wp2
          go_meet
          exact ⟨rfl, rfl⟩
      · have e1 := HB1.out rfl
        subst e1
        go_wp2
        go_meet
        exact ⟨rfl, rfl⟩
    case rest =>
    obtain ⟨rfl, rfl⟩ := hcut
    go_wp2_with fail
    refine (HGR.out _ (HF1.out.seq' G4)).mono ?_
    rintro e w5 ⟨a5, c5, rfl, m5, f5⟩
    have b5 : Fr (fun _ => False) w5 (w5.alloc (.cells #[.slice a5 G.length c5, .int .i64 gl] 24)) := Fr.box _ _
    have G5 := (G4.seq' f5).seq' b5
    have HM5 : Hid (Mks (w5.alloc (.cells #[.slice a5 G.length c5, .int .i64 gl] 24)) a5 c5 G) := m5.same b5
    have HT5 : Hid (Two (w5.alloc (.cells #[.slice a5 G.length c5, .int .i64 gl] 24)) w5.heap.size 24 (.slice a5 G.length c5) (.int .i64 gl)) := Two.new _ _ _ _
    clear x0 x1 y0 y1 G4 f5 m5 b5
    obtain ⟨⟨x0, x1⟩, y0, y1⟩ := HQ.out _ G5
    obtain ⟨u0, u1, _⟩ := HT5.out.cells
    by_cases hge : ge = 0
    · subst hge
      obtain ⟨k1, k2, k3⟩ := HGA.out rfl
      have HK1 : Hid _ := k1
      have HK2 : Hid _ := k2
      have HK3 : Hid _ := k3
      clear k1 k2 k3 HGA
      go_wp2_with fail
      generalize w5.alloc (.cells #[.slice a5 G.length c5, .int .i64 gl] 24) = W5 at *
      generalize w5.heap.size = B5 at *
      refine (HK1.out _ _ _ (HF1.out.seq' G5) HM5.out).mono ?_
      rintro e w6 ⟨rfl, f6⟩
      have G6 := G5.seq' f6
      clear x0 x1 y0 y1 u0 u1
      obtain ⟨⟨x0, x1⟩, y0, y1⟩ := HQ.out _ G6
      obtain ⟨u0, u1, _⟩ := (HT5.out.fr f6 (fun f => f)).cells
      go_wp2_with fail
      refine (HK2.out _ _ _ (HF1.out.seq' G6) (HM5.out.same f6)).mono ?_
      rintro e w7 ⟨rfl, f7⟩
      have G7 := G6.seq' f7
      have f67 := f6.seq' f7
      clear x0 x1 y0 y1 u0 u1
      obtain ⟨⟨x0, x1⟩, y0, y1⟩ := HQ.out _ G7
      obtain ⟨u0, u1, _⟩ := (HT5.out.fr f67 (fun f => f)).cells
      go_wp2_with fail
      refine (HK3.out _ _ _ (HM5.out.same f67)).mono ?_
      rintro e w8 ⟨rfl, f8⟩
      go_wp2_with fail
      refine (HSP.out _).mono ?_
      rintro e w9 ⟨rfl, f9⟩
      go_wp2
      go_ret
      exact ⟨by simp, HF1.out.seq' ((G7.seq' f8).seq' f9)⟩
    · have hge' : (ge != 0) = true := by simpa using hge
      clear hge HGA
      go_wp2_with fail
      refine (HSP.out _).mono ?_
      rintro e w9 ⟨rfl, f9⟩
      go_wp2
      go_ret
      exact ⟨by simp, HF1.out.seq' (G5.seq' f9)⟩

set_option maxRecDepth 100000 in
theorem lifted (os : Os) (started : os.Started) (H : Type) (enc : TypeId × Value → H) :
    ReturnsInHanded {} Try.checked os 6 .any (Rows.lineOrderSpec.pre6 enc Try.prog Try.f6 Rows.lineOrderRow.domain false) (Rows.lineOrderSpec.post enc Try.prog Try.f6 false true false false) := by
  refine returnsInHanded_of_change_sized (C := Try.checked) own started (by kernel_rfl) Try.func6
    (ChangeSpec.witness6 (enc := enc) (C := Try.checked) false ⟨#[], #[.agg #[.slice none 0 0, .int .i64 0], .agg #[.slice none 0 0, .int .i64 0], .agg #[.int .i64 0, .int .i64 0]], []⟩ 8 (by kernel_rfl) (by kernel_rfl) (by kernel_rfl) (by kernel_rfl)) ?_
  intro W base args ds gs before hval0 hW hcnd hsz0 _
  have hsz : (DataW.weightsEach Try.prog (Try.f6.params.toList ++ Rows.lineOrderSpec.plain.varTypes Try.prog) (ds ++ gs)).all (· ≤ reachBytes) = true := hsz0
  clear hsz0
  have hval : ∀ (j : Nat) t v, Try.f6.params[j]? = some t → args[j]? = some v → Value.okWide Try.prog W .any base t v := hval0
  have hW' := hW
  obtain ⟨p, q, hA0, hV, rfl, hfz, hnd⟩ := hW
  have hA : DataW.TrodAll enc Try.prog W 0 (fun _ => true) true Try.f6.params.toList args.toList ds p := hA0
  rw [Try.params6] at hA hval hsz
  obtain ⟨v0, vs0, d0, ds0, p0, q0, hargs, rfl, rfl, h0, r0⟩ := trodAll_cons hA
  obtain ⟨v1, vs1, d1, ds1, p1, q1, rfl, rfl, rfl, h1, r1⟩ := trodAll_cons r0
  obtain ⟨v2, vs2, d2, ds2, p2, q2, rfl, rfl, rfl, h2, r2⟩ := trodAll_cons r1
  obtain ⟨rfl, rfl, rfl⟩ := trodAll_nil r2
  obtain rfl : args = #[v0, v1, v2] := by cases args; simp_all
  obtain ⟨rfl, rfl⟩ := trodVars_none hV
  have k0 := h0
  have lt0 : ∀ x ∈ p0, x.block < W.heap.size := by obtain ⟨m, hm⟩ := k0; exact DataW.trod_lt m _ _ _ hm
  obtain ⟨ta0, tc0, tm0, tl0, rfl, th0⟩ := line_open (hval 0 24 v0 rfl rfl) h0
  have k1 := h1
  have lt1 : ∀ x ∈ p1, x.block < W.heap.size := by obtain ⟨m, hm⟩ := k1; exact DataW.trod_lt m _ _ _ hm
  obtain ⟨ta1, tc1, tm1, tl1, rfl, th1⟩ := line_open (hval 1 24 v1 rfl rfl) h1
  have k2 := h2
  have lt2 : ∀ x ∈ p2, x.block < W.heap.size := by obtain ⟨m, hm⟩ := k2; exact DataW.trod_lt m _ _ _ hm
  obtain ⟨mk2, rfl⟩ := mark_open (hval 2 53 v2 rfl rfl) h2
  clear hA0 hval0
  refine (walk W ta0 tc0 tm0 tl0 th0 ta1 tc1 tm1 tl1 th1 mk2).mono fun e W' ⟨he, fr⟩ => ?_
  have bel : Below W.heap.size W W' := fr.below (Nat.le_refl _) (fun _ f => f.elim)
  subst he
  exact ⟨_, rfl, _, _, _, [], _, [], hW', trodAll_mk1 (shut_bool Try.underlying4 _), (trodAll_cons_mk (Below.trod laidOut (by kernel_rfl) (of_decide_eq_true (by kernel_rfl)) k0 bel lt0) (trodAll_cons_mk (Below.trod laidOut (by kernel_rfl) (of_decide_eq_true (by kernel_rfl)) k1 bel lt1) (trodAll_cons_mk (Below.trod laidOut (by kernel_rfl) (of_decide_eq_true (by kernel_rfl)) k2 bel lt2) trodAll_mk0))), rfl, bel.frame _, fun h => by cases h⟩

theorem proved : Rows.LineOrderSaid :=
  OpenClaim.holds_of_wide 6 Try.f6 rfl rfl rfl rfl rfl rfl rfl ⟨rfl, rfl, rfl, rfl, rfl⟩ rfl rfl rfl rfl rfl (by kernel_rfl) Try.func6 (by kernel_rfl)
    (of_decide_eq_true (by kernel_rfl)) (by unfold Func.isWrapper; first | (rw [if_pos (by decide +kernel)]; kernel_rfl) | (rw [if_neg (by decide +kernel)]; exact ⟨rfl, rfl⟩))
    (fun os started H enc _ => lifted os started H enc)
end Go.Proofs.Ytphfngboddnbmaa.lineOrder
namespace Go.Proofs.Ytphfngboddnbmaa
theorem lineOrder_holds : Rows.LineOrderSaid := lineOrder.proved
#print axioms lineOrder_holds
end Go.Proofs.Ytphfngboddnbmaa
