/- For every list of rows of bytes latticelaw04.NetOrder answers true: where the first one in flight is picked always, and nothing is lost or copied, messages come in the order in which they were sent (4.2); no condition. -/
import Derived.Test.YtplkdjmajagpcabArgs
import Derived.Test.YtplkdjmajagpcabNetBes
namespace Go.Proofs.Ytplkdjmajagpcab.netOrder
open Go.ChangeShapes Go.WideShapes Go.ChangeAt Go.RowKit
open Go.ChangeMaps (open_string shut_string)
set_option linter.unusedVariables false

theorem own : ownKnob Try.prog.godebug = none := by kernel_rfl
theorem laidOut : laidOutB Try.prog = true := by kernel_rfl
theorem bytes8 : Try.prog.bytesOf 5 = 1 := by kernel_rfl

theorem take_next {α : Type} {Q : List α} {k : Nat} {q : α} (h : Q[k]? = some q) : Q.take (k + 1) = Q.take k ++ [q] := by rw [List.take_add_one, h]; rfl
/-- The rows that may be sent. -/
def kept (rs : List Rw) : List (List Nat) := rs.flatMap (fun r => if r.l.length ≤ 65535 then [r.l] else [])
def sl (ls : List (List Nat)) : List Value := ls.map (fun l => .string (strOf l))
theorem kept_snoc {rs : List Rw} {k : Nat} {r : Rw} (h : rs[k]? = some r) : kept (rs.take (k + 1)) = kept (rs.take k) ++ (if r.l.length ≤ 65535 then [r.l] else []) := by rw [take_next h]; simp [kept]
theorem kept_len (rs : List Rw) : (kept rs).length ≤ rs.length := by
  induction rs with
  | nil => simp [kept]
  | cons r rs ih =>
    have : (kept (r :: rs)).length = (if r.l.length ≤ 65535 then [r.l] else []).length + (kept rs).length := by simp [kept]
    rw [this, List.length_cons]
    split <;> simp <;> omega
theorem sl_one (l : List Nat) : ∀ u ∈ sl [l], u.oneCell' = true := by intro u hu; simp [sl] at hu; subst hu; rfl

set_option maxRecDepth 100000 in
set_option maxHeartbeats 4000000 in
theorem walk (w : World) (a0 : Option Addr) (len0 cap0 : Nat) (rs0 : List Rw) (hl0 : len0 = rs0.length) (hr0 : Rows2 w a0 cap0 rs0) :
    Calls Try.prog 6 #[.slice a0 len0 cap0] w fun e w' => e = .returned (.bool true) ∧ Fr (fun _ => False) w w' := by
  obtain ⟨i0, hi, hz0, hz1, hz2⟩ := info_parts infoS
  obtain ⟨n, hn⟩ : ∃ n, n = rs0.length := ⟨_, rfl⟩
  have HN : Hid (n = rs0.length) := hn
  rw [hl0, ← hn]
  clear hl0 hn
  by_cases hlong : 300 < n
  · have hl' : (300 : Int) < (n : Int) := by omega
    clear hi hz0 hz1 hz2
    go_enter Try.func6, Try.ntmps6
    go_wp2_with fail
    refine (new_ok 2 (by omega) (by omega) _).mono ?_
    rintro e w1 ⟨rfl, rfl⟩
    go_wp2_with fail
    refine (speaks_any _).mono ?_
    rintro e w2 ⟨rfl, f2⟩
    go_wp2
    go_ret
    exact ⟨rfl, ((Fr.refl (fun _ => False) w).alloc _).false_trans f2⟩
  have hl' : (n : Int) ≤ 300 := by omega
  have hd : decide ((300 : Int) < (n : Int)) = false := by simp; omega
  have hdn : decide (300 < n) = false := by simp; omega
  have hKl : ∀ k, (kept (rs0.take k)).length ≤ 300 := fun k => by
    have := kept_len (rs0.take k)
    rw [List.length_take] at this
    have := HN.out
    omega
  have HK : Hid (∀ k, (kept (rs0.take k)).length ≤ 300) := hKl
  have H1 : Hid (Try.prog.info? 9 = some i0) := hi
  have H2 : Hid (i0.zero = some (.string ⟨#[]⟩)) := hz0
  have H3 : Hid (i0.size = 1) := hz1
  have H4 : Hid (i0.bytes = 16) := hz2
  clear hi hz0 hz1 hz2 hKl hlong
  go_enter Try.func6, Try.ntmps6
  go_wp2_with fail
  refine (new_ok 2 (by omega) (by omega) _).mono ?_
  rintro e w1 ⟨rfl, e1⟩
  have n1 : NetA w w1 w.heap.size 2 (.slice none 0 0) [] := by rw [e1]; exact NetA.new 2 (by omega) (by omega) w
  clear e1
  generalize w.heap.size = nb at n1 ⊢
  go_wp2
  go_loopw [5, 34] (fun v t wr => ∃ (k : Nat) (nv : Value) (ms : List Msg) (sv : Value), sv = v ∧ k ≤ n ∧ t = .int .i64 k ∧ Beside w wr nb 2 nv ms 1 sv (kept (rs0.take k)).length (sl (kept (rs0.take k))) ∧ ms.map Msg.cont = (kept (rs0.take k)).map (fun l => (1, 0, l)))
    (fun _ t _ => n - (intOf t).toNat)
  case atStart => exact ⟨0, _, [], _, rfl, by omega, rfl, by simpa [kept, sl] using Beside.nil n1 1, by simp [kept]⟩
  case round =>
  clear n1
  obtain ⟨k, nv, ms, sv, rfl, hk, rfl, hB, hms⟩ := hrel
  by_cases hlt : k < n
  · obtain ⟨r, hrr⟩ : ∃ r, rs0[k]? = some r := ⟨_, List.getElem?_eq_getElem (by rw [← HN.out]; exact hlt)⟩
    have hR := hr0.same hB.net.fr
    have hmem := List.mem_of_getElem? hrr
    have hrow := hR.row r hmem
    have hrow0 := hr0.row r hmem
    have hsn := kept_snoc hrr
    have hkl := HK.out k
    have hml : ms.length ≤ 300 := by have := congrArg List.length hms; simp at this; omega
    rcases hR.at_ with h0 | ⟨b, off, ha0, hb, hcell⟩
    · rw [h0] at hrr; cases hrr
    have c0 := hcell k r hrr
    subst ha0
    have hki : (k : Int) < (n : Int) := by omega
    obtain ⟨ad, cp, l⟩ := r
    simp only at c0 hrow hrow0 hsn
    obtain ⟨Kp, hKp⟩ : ∃ Kp, Kp = kept (rs0.take k) := ⟨_, rfl⟩
    rw [← hKp] at hsn hB hms hkl
    clear hKp hrr hR hmem hcell
    by_cases hlen : 65535 < l.length
    · rw [if_neg (by omega), List.append_nil] at hsn
      have HS : Hid (kept (rs0.take (k + 1)) = Kp) := hsn
      clear hsn
      go_wp2_with fail
      refine (send_long nb 2 _ _ _ hB.net.net 1 0 (by omega) (by omega) (by omega) (by omega) ad l.length cp hlen).mono ?_
      rintro e w5 ⟨rfl, rfl⟩
      go_wp2
      go_roundw
      case rel => exact ⟨k + 1, _, _, _, rfl, by omega, by go_num, by rw [HS.out]; exact hB, by rw [HS.out]; exact hms⟩
      case measure => simp [intOf]; omega
    · have hlen' : l.length ≤ 65535 := by omega
      rw [if_pos hlen'] at hsn
      have HS : Hid (kept (rs0.take (k + 1)) = Kp ++ [l]) := hsn
      have hr := hrow hlen'
      clear hsn hlen hrow
      go_wp2_with fail
      refine (send_ok nb 2 _ _ _ hB.net.net 1 0 (by omega) (by omega) (by omega) (by omega) ad cp l hr hlen' (by omega)).mono ?_
      rintro e w5 ⟨rfl, nv5, a5, c5, k5, f5, o5, r5⟩
      have hB5 := hB.go k5 f5 o5 (fun m hm => by
        rcases List.mem_append.1 hm with h1 | h1
        · exact .inl h1
        · obtain rfl := List.mem_singleton.1 h1
          exact .inr r5)
      have hms5 : (ms ++ [(⟨1, 0, a5, c5, l⟩ : Msg)]).map Msg.cont = (Kp ++ [l]).map (fun l => (1, 0, l)) := by rw [List.map_append, List.map_append, hms]; rfl
      have cv := run_str (P := Try.prog) (src := 29) (dst := 9) Try.underlying29 Try.underlying5 Try.underlying9 ((hrow0 hlen').same hB5.net.fr) l.length rfl
      have fW : Fr (fun _ => False) w5 (w5.alloc (.cells #[.string (strOf l)] 9)) := (Fr.refl (fun _ => False) w5).alloc _
      have hhas := (hB5.same fW).has
      have hnews : From (w5.alloc (.cells #[.string (strOf l)] 9)) (some ⟨w5.heap.size, 0, none⟩) (sl [l]) := .inr ⟨_, _, rfl, range_block (heap_alloc_new w5 _) (fun j u hu => by rw [Nat.zero_add]; simpa [sl] using hu)⟩
      clear k5 f5 o5 r5 hB hms hr hrow0
      go_wp2_with (at_builtin; refine wpList_append_has _ rfl _ _ 48 48 9 9 rfl i0 _ 1 16 Try.underlying48 Try.underlying48 H1.out H2.out H3.out H4.out rfl (by omega) sv Kp.length (sl Kp) rfl hhas (some ⟨w5.heap.size, 0, none⟩) 1 1 (sl [l]) rfl rfl hnews (sl_one l) (by unfold maxLen; omega) (by omega) ?_; intro a7 c7 w7 hown7 hfr7 hat7)
      have hB7 := hB5.grow fW hfr7 hown7 hat7
      go_roundw
      case rel =>
        have hB8 : Beside w w7 nb 2 nv5 (ms ++ [(⟨1, 0, a5, c5, l⟩ : Msg)]) 1 (.slice a7 (Kp.length + 1) c7) (kept (rs0.take (k + 1))).length (sl (kept (rs0.take (k + 1)))) := by
          rw [HS.out]
          simpa [sl] using hB7
        have hm8 : (ms ++ [(⟨1, 0, a5, c5, l⟩ : Msg)]).map Msg.cont = (kept (rs0.take (k + 1))).map (fun l => (1, 0, l)) := by rw [HS.out]; exact hms5
        exact ⟨k + 1, _, _, _, rfl, by omega, by go_num, hB8, hm8⟩
      case measure => simp [intOf]; omega
  have hkn : n = k := by omega
  subst hkn
  have hall : rs0.take n = rs0 := by rw [HN.out, List.take_length]
  have hkl := HK.out n
  rw [hall] at hB hms hkl
  generalize kept rs0 = K at *
  obtain ⟨asv, csv, hsv, hcs, _⟩ := hB.has.slice
  subst hsv
  clear hlt hall HK hk
  go_wp2
  go_loopw [50] (fun t wr => ∃ (j : Nat) (nv : Value) (ms : List Msg), j ≤ K.length ∧ t = .int .i64 j ∧ Beside w wr nb 2 nv ms 1 (.slice asv K.length csv) K.length (sl K) ∧ ms.map Msg.cont = (K.drop j).map (fun l => (1, 0, l)))
    (fun t _ => K.length - (intOf t).toNat)
  case atStart => exact ⟨0, _, _, by omega, rfl, hB, by simpa using hms⟩
  case round =>
  clear hB hms
  obtain ⟨j, nv, ms, hj, rfl, hB, hms⟩ := hrel
  by_cases hlt : j < K.length
  · obtain ⟨l, hl⟩ : ∃ l, K[j]? = some l := ⟨_, List.getElem?_eq_getElem hlt⟩
    have hdrop : K.drop j = l :: K.drop (j + 1) := by
      obtain ⟨h1, rfl⟩ := List.getElem?_eq_some_iff.1 hl
      exact List.drop_eq_getElem_cons h1
    rw [hdrop] at hms
    obtain ⟨m, ms', rfl⟩ : ∃ m ms', ms = m :: ms' := by
      cases ms with
      | nil => simp at hms
      | cons m ms' => exact ⟨m, ms', rfl⟩
    have hm1 : Msg.cont m = (1, 0, l) := by simpa using (List.cons.inj hms).1
    have hm2 : ms'.map Msg.cont = (K.drop (j + 1)).map (fun l => (1, 0, l)) := by simpa using (List.cons.inj hms).2
    obtain ⟨g, cap', hv, _, _, _, _, hra⟩ := hB.has.form (by omega)
    simp only [Value.slice.injEq, true_and] at hv
    obtain ⟨rfl, rfl⟩ := hv
    have c9 := hra j (.string (strOf l)) (by simp [sl, hl])
    rw [Nat.zero_add] at c9
    have hji : (j : Int) < (K.length : Int) := by omega
    obtain ⟨mf, mt, ma, mcp, ml⟩ := m
    simp only [Msg.cont, Prod.mk.injEq] at hm1
    obtain ⟨rfl, rfl, rfl⟩ := hm1
    have oml := (hB.net.net.bytes ⟨1, 0, ma, mcp, ml⟩ (by simp)).1.byte
    have sml := hB.net.net.small ⟨1, 0, ma, mcp, ml⟩ (by simp)
    simp only at oml sml
    clear hms hdrop hl hra
    go_wp2_with fail
    refine (pick_ok nb 2 _ _ _ hB.net.net 0 ⟨1, 0, ma, mcp, ml⟩ rfl).mono ?_
    rintro e w8 ⟨a8, c8, rfl, h8, v8, k8, f8, o8, d8⟩
    have hB8 := hB.go k8 f8 o8 (fun m hm => .inl (List.mem_of_mem_eraseIdx hm))
    have e8 : ((⟨1, 0, ma, mcp, ml⟩ :: ms').eraseIdx 0) = ms' := rfl
    rw [e8] at hB8
    have r8 : Row w8 a8 c8 ml := h8.has.bytes oml (Nat.le_trans sml (by omega))
    have fW : Fr (fun _ => False) w8 (w8.alloc (.cells #[.int .i64 1, .int .i64 0, .slice a8 ml.length c8] 36)) := (Fr.refl (fun _ => False) w8).alloc _
    have hBW := hB8.same fW
    have cv := run_str (P := Try.prog) (src := 29) (dst := 9) Try.underlying29 Try.underlying5 Try.underlying9 (r8.same fW) ml.length rfl
    clear k8 f8 o8 d8 h8 e8 hB hB8 r8
    go_wp2
    go_roundw
    case rel => exact ⟨j + 1, _, _, by omega, by go_num, hBW, hm2⟩
    case measure => simp [intOf]; omega
  have hjn : K.length = j := by omega
  subst hjn
  have hnil : ms = [] := by
    have := congrArg List.length hms
    simp at this
    exact this
  subst hnil
  clear hlt
  go_wp2_with fail
  refine (len_any nb 2 _ _ _ hB.net.net).mono ?_
  rintro e w9 ⟨rfl, rfl⟩
  go_wp2_with fail
  refine (speaks_any _).mono ?_
  rintro e w10 ⟨rfl, f10⟩
  go_wp2
  go_ret
  exact ⟨rfl, hB.net.fr.false_trans f10⟩

set_option maxRecDepth 100000 in
theorem lifted (os : Os) (started : os.Started) (H : Type) (enc : TypeId × Value → H) :
    ReturnsInHanded {} Try.checked os 6 .any (Rows.netOrderSpec.pre6 enc Try.prog Try.f6 Rows.netOrderRow.domain false) (Rows.netOrderSpec.post enc Try.prog Try.f6 false true false false) := by
  refine returnsInHanded_of_change_sized (C := Try.checked) own started (by kernel_rfl) Try.func6
    (ChangeSpec.witness6 (enc := enc) (C := Try.checked) false ⟨#[], #[.slice none 0 0], []⟩ 8 (by kernel_rfl) (by kernel_rfl) (by kernel_rfl) (by kernel_rfl)) ?_
  intro W base args ds gs before hval0 hW hcnd hsz0 _
  have hsz : (DataW.weightsEach Try.prog (Try.f6.params.toList ++ Rows.netOrderSpec.plain.varTypes Try.prog) (ds ++ gs)).all (· ≤ reachBytes) = true := hsz0
  clear hsz0
  have hval : ∀ (j : Nat) t v, Try.f6.params[j]? = some t → args[j]? = some v → Value.okWide Try.prog W .any base t v := hval0
  have hW' := hW
  obtain ⟨p, q, hA0, hV, rfl, hfz, hnd⟩ := hW
  have hA : DataW.TrodAll enc Try.prog W 0 (fun _ => true) true Try.f6.params.toList args.toList ds p := hA0
  rw [Try.params6] at hA hval hsz
  obtain ⟨v0, vs0, d0, ds0, p0, q0, hargs, rfl, rfl, h0, r0⟩ := trodAll_cons hA
  obtain ⟨rfl, rfl, rfl⟩ := trodAll_nil r0
  obtain rfl : args = #[v0] := by cases args; simp_all
  obtain ⟨rfl, rfl⟩ := trodVars_none hV
  obtain ⟨a0, len0, cap0, rfl⟩ := okWide_slice Try.underlying47 (hval 0 47 v0 rfl rfl)
  have k0 := h0
  have lt0 : ∀ x ∈ p0, x.block < W.heap.size := by obtain ⟨m, hm⟩ := k0; exact DataW.trod_lt m _ _ _ hm
  obtain ⟨rs0, hl0, hr0⟩ : ∃ rs : List Rw, len0 = rs.length ∧ Rows2 W a0 cap0 rs := by
    obtain ⟨fuel, hf⟩ := h0
    exact rows_open Try.underlying47 hf
  clear hA0 hval0
  refine (walk W a0 len0 cap0 rs0 hl0 hr0).mono fun e W' ⟨he, fr⟩ => ?_
  have bel : Below W.heap.size W W' := fr.below (Nat.le_refl _) (fun _ f => f.elim)
  subst he
  exact ⟨_, rfl, _, _, _, [], _, [], hW', trodAll_mk1 (shut_bool Try.underlying4 _), (trodAll_cons_mk (Below.trod laidOut (by kernel_rfl) (of_decide_eq_true (by kernel_rfl)) k0 bel lt0) trodAll_mk0), rfl, bel.frame _, fun h => by cases h⟩

theorem proved : Rows.NetOrderSaid :=
  OpenClaim.holds_of_wide 6 Try.f6 rfl rfl rfl rfl rfl rfl rfl ⟨rfl, rfl, rfl, rfl, rfl⟩ rfl rfl rfl rfl rfl (by kernel_rfl) Try.func6 (by kernel_rfl)
    (of_decide_eq_true (by kernel_rfl)) (by unfold Func.isWrapper; first | (rw [if_pos (by decide +kernel)]; kernel_rfl) | (rw [if_neg (by decide +kernel)]; exact ⟨rfl, rfl⟩))
    (fun os started H enc _ => lifted os started H enc)
end Go.Proofs.Ytplkdjmajagpcab.netOrder
namespace Go.Proofs.Ytplkdjmajagpcab
theorem netOrder_holds : Rows.NetOrderSaid := netOrder.proved
#print axioms netOrder_holds
end Go.Proofs.Ytplkdjmajagpcab
