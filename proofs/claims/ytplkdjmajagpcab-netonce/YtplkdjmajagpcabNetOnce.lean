/- For every list of steps latticelaw04.NetOnce answers true: each message that is picked was sent so, and without copies each comes once at most (4.4); no condition. -/
import Derived.Test.YtplkdjmajagpcabArgs
import Derived.Test.YtplkdjmajagpcabNetB2
import Derived.Test.YtplkdjmajagpcabNetB2
namespace Go.Proofs.Ytplkdjmajagpcab.netOnce
open Go.ChangeShapes Go.WideShapes Go.ChangeAt Go.RowKit
open Go.ChangeMaps (open_string shut_string)
set_option linter.unusedVariables false

theorem own : ownKnob Try.prog.godebug = none := by kernel_rfl
theorem laidOut : laidOutB Try.prog = true := by kernel_rfl
theorem bytes8 : Try.prog.bytesOf 5 = 1 := by kernel_rfl

/-- What the loop over what was sent has come to. -/
def sought (S : List Say) (C C' : List Bool) (x : Say) (j : Nat) (found : Bool) : Prop :=
  (found = false ∧ C' = C ∧ ∀ i, i < j → ∀ y, S[i]? = some y → C[i]? = some false → y ≠ x) ∨ (found = true ∧ ∃ i : Nat, S[i]? = some x ∧ C[i]? = some false ∧ C' = C.set i true)
theorem sought.len {S : List Say} {C C' : List Bool} {x : Say} {j : Nat} {found : Bool} (h : sought S C C' x j found) : C'.length = C.length := by
  rcases h with ⟨_, rfl, _⟩ | ⟨_, i, _, _, rfl⟩
  · rfl
  · simp
theorem sought.skip {S : List Say} {C C' : List Bool} {x y : Say} {j : Nat} {found : Bool} (h : sought S C C' x j found) (hy : S[j]? = some y) (hn : found = true ∨ C'[j]? = some true ∨ y ≠ x) : sought S C C' x (j + 1) found := by
  rcases h with ⟨rfl, rfl, h⟩ | h
  · refine .inl ⟨rfl, rfl, fun i hi z hz hc => ?_⟩
    by_cases hij : i = j
    · subst hij
      rw [hy] at hz
      obtain rfl := Option.some.inj hz
      rcases hn with hn | hn | hn
      · cases hn
      · rw [hc] at hn; cases hn
      · exact hn
    · exact h i (by omega) z hz hc
  · exact .inr h
theorem sought.hit {S : List Say} {C C' : List Bool} {x : Say} {j : Nat} (h : sought S C C' x j false) (hy : S[j]? = some x) (hc : C'[j]? = some false) : sought S C (C'.set j true) x (j + 1) true := by
  rcases h with ⟨_, rfl, _⟩ | ⟨h, _⟩
  · exact .inr ⟨rfl, j, hy, hc, rfl⟩
  · cases h
theorem sought.done {S : List Say} {C C' : List Bool} {x : Say} {found : Bool} (h : sought S C C' x S.length found) (hl : x ∈ live S C) : found = true ∧ (live S C).Perm (x :: live S C') := by
  rcases h with ⟨_, _, h⟩ | ⟨rfl, i, hs, hc, rfl⟩
  · obtain ⟨i, h1, h2⟩ := live_mem S C x hl
    exact absurd rfl (h i (by have := (List.getElem?_eq_some_iff.1 h1).1; omega) x h1 h2)
  · exact ⟨rfl, live_mark S C i x hs hc⟩
theorem erase_cont {ms : List Msg} {i : Nat} {m : Msg} (h : ms[i]? = some m) : (ms.map Msg.cont).Perm (m.cont :: (ms.eraseIdx i).map Msg.cont) := by
  induction ms generalizing i with
  | nil => simp at h
  | cons a ms ih => cases i with
    | zero => simp at h; subst h; exact List.Perm.refl _
    | succ i =>
      have := ih (i := i) (by simpa using h)
      exact (this.cons a.cont).trans (List.Perm.swap m.cont a.cont _)

set_option maxRecDepth 100000 in
set_option maxHeartbeats 4000000 in
theorem walk (w : World) (a0 : Option Addr) (len0 cap0 : Nat) (ss0 : List St) (hl0 : len0 = ss0.length) (hr0 : Steps w a0 cap0 ss0) :
    Calls Try.prog 3 #[.slice a0 len0 cap0] w fun e w' => e = .returned (.bool true) ∧ Fr (fun _ => False) w w' := by
  obtain ⟨iM, hiM, hzM, hsM, hbM⟩ := info_parts infoM
  obtain ⟨iB, hiB, hzB, hsB, hbB⟩ := info_parts infoB
  obtain ⟨n, hn⟩ : ∃ n, n = ss0.length := ⟨_, rfl⟩
  have HN : Hid (n = ss0.length) := hn
  have hnm : n ≤ 9223372036854775807 := by have := hr0.le; have := hr0.max; omega
  rw [hl0, ← hn]
  clear hl0 hn
  have M1 : Hid (Try.prog.info? 34 = some iM) := hiM
  have M2 : Hid (iM.zero = some (.agg #[.int .i64 0, .int .i64 0, .string ⟨#[]⟩])) := hzM
  have M3 : Hid (iM.size = 3) := hsM
  have M4 : Hid (iM.bytes = 32) := hbM
  have L1 : Hid (Try.prog.info? 4 = some iB) := hiB
  have L2 : Hid (iB.zero = some (.bool false)) := hzB
  have L3 : Hid (iB.size = 1) := hsB
  have L4 : Hid (iB.bytes = 1) := hbB
  clear hiM hzM hsM hbM hiB hzB hsB hbB
  go_enter Try.func3, Try.ntmps3
  go_wp2_with fail
  refine (new_ok 3 (by omega) (by omega) _).mono ?_
  rintro e w1 ⟨rfl, e1⟩
  have n1 : NetA w w1 w.heap.size 3 (.slice none 0 0) [] := by rw [e1]; exact NetA.new 3 (by omega) (by omega) w
  clear e1
  generalize w.heap.size = nb at n1 ⊢
  go_wp2
  go_loopw [5, 6, 26] (fun v5 v6 t wr => ∃ (k : Nat) (nv : Value) (ms : List Msg) (sv cv : Value) (S : List Say) (C : List Bool), sv = v5 ∧ cv = v6 ∧ k ≤ n ∧ k ≤ 300 ∧ t = .int .i64 k ∧ S.length ≤ k ∧ ms.length ≤ k ∧ S.length = C.length ∧ (∀ x ∈ S, octs x.2.2) ∧
      B2 w wr nb 3 nv ms sv S cv C ∧ (ms.map Msg.cont).Perm (live S C))
    (fun _ _ t _ => n - (intOf t).toNat)
  case atStart => exact ⟨0, _, [], _, _, [], [], rfl, rfl, by omega, by omega, rfl, by simp, by simp, rfl, (fun x hx => by cases hx), ⟨Beside.nil n1 3, Beside.nil n1 1, (fun k e => by cases e)⟩, List.Perm.refl _⟩
  case round =>
  clear n1
  obtain ⟨k, nv, ms, sv, cv, S, C, rfl, rfl, hk, hk3, rfl, hSk, hmk, hSC, hoc, hB, hperm⟩ := hrel
  have hCk : C.length ≤ k := by omega
  have HSC : Hid (S.length = C.length) := hSC
  clear hSC
  by_cases hlt : k < n
  · obtain ⟨st, hst⟩ : ∃ st, ss0[k]? = some st := ⟨_, List.getElem?_eq_getElem (by rw [← HN.out]; exact hlt)⟩
    have hS := hr0.same hB.s.net.fr
    have hmem := List.mem_of_getElem? hst
    have hrow := hS.row st hmem
    have hrow0 := hr0.row st hmem
    rcases hS.at_ with h0 | ⟨b, off, ha0, hb, hcell⟩
    · rw [h0] at hst; cases hst
    obtain ⟨c0, c1, c2, c3⟩ := hcell k st hst
    subst ha0
    have hki : (k : Int) < (n : Int) := by omega
    obtain ⟨kk, aa, cc, ad, cp, l⟩ := st
    simp only at c0 c1 c2 c3 hrow hrow0
    have fW : Fr (fun _ => False) wr (wr.alloc (.cells #[.int .i64 kk, .int .i64 aa, .int .i64 cc, .slice ad l.length cp] 31)) := (Fr.refl (fun _ => False) wr).alloc _
    have hBW := hB.same fW
    have hrW : l.length ≤ 65535 → Row (wr.alloc (.cells #[.int .i64 kk, .int .i64 aa, .int .i64 cc, .slice ad l.length cp] 31)) ad cp l := fun h => (hrow h).same fW
    have hb8 := heap_alloc_new wr (.cells #[.int .i64 kk, .int .i64 aa, .int .i64 cc, .slice ad l.length cp] 31)
    have hnb8 : ¬ netS nb nv wr.heap.size := fun e => Nat.lt_irrefl _ (hB.s.net.net.lt e)
    clear hrow hst hmem hS hcell hB
    by_cases h300 : k = 300
    · subst h300
      go_wp2_with fail
      refine (speaks_any _).mono ?_
      rintro e w9 ⟨rfl, f9⟩
      go_wp2
      go_ret
      exact ⟨rfl, hBW.s.net.fr.false_trans f9⟩
    have hk30 : (k : Int) < 300 := by omega
    have hkd : decide ((300 : Int) ≤ (k : Int)) = false := by simp; omega
    clear h300 fW
    by_cases hkind : kk < 2
    · by_cases harg : (aa < 0 ∨ 3 ≤ aa) ∨ (cc < 0 ∨ 3 ≤ cc)
      · have HA : Hid ((aa < 0 ∨ 3 ≤ aa) ∨ (cc < 0 ∨ 3 ≤ cc)) := harg
        clear harg hrW hrow0
        go_wp2_with fail
        refine (send_arg nb 3 nv ms _ hBW.s.net.net aa cc _ HA.out).mono ?_
        rintro e w5 ⟨rfl, rfl⟩
        clear hb8 hnb8
        go_wp2
        go_roundw
        case rel => exact ⟨k + 1, _, _, _, _, _, _, rfl, rfl, by omega, by omega, by go_num, by omega, by omega, HSC.out, hoc, hBW, hperm⟩
        case measure => simp [intOf]; omega
      · have ha0 : 0 ≤ aa := by omega
        have ha1 : aa < 3 := by omega
        have hc0 : 0 ≤ cc := by omega
        have hc1 : cc < 3 := by omega
        clear harg
        by_cases hlen : 65535 < l.length
        · clear hrW hrow0
          go_wp2_with fail
          refine (send_long nb 3 nv ms _ hBW.s.net.net aa cc ha0 ha1 hc0 hc1 ad l.length cp hlen).mono ?_
          rintro e w5 ⟨rfl, rfl⟩
          clear hb8 hnb8
          go_wp2
          go_roundw
          case rel => exact ⟨k + 1, _, _, _, _, _, _, rfl, rfl, by omega, by omega, by go_num, by omega, by omega, HSC.out, hoc, hBW, hperm⟩
          case measure => simp [intOf]; omega
        · have hlen' : l.length ≤ 65535 := by omega
          have hr := hrW hlen'
          have hr0' := hrow0 hlen'
          clear hrW hrow0 hlen
          go_wp2_with fail
          refine (send_ok nb 3 nv ms _ hBW.s.net.net aa cc ha0 ha1 hc0 hc1 ad cp l hr hlen' (by omega)).mono ?_
          rintro e w5 ⟨rfl, nv5, a5, c5, k5, f5, o5, r5⟩
          have hB5 := hBW.go k5 f5 o5 (fun m hm => by
            rcases List.mem_append.1 hm with h1 | h1
            · exact .inl h1
            · obtain rfl := List.mem_singleton.1 h1
              exact .inr r5)
          have hb5 := f5.block_eq hb8 hnb8
          have q1 := cell_at hb5 1
          have q2 := cell_at hb5 2
          have q3 := cell_at hb5 3
          simp only [List.getElem?_toArray, List.getElem?_cons_zero, List.getElem?_cons_succ] at q1 q2 q3
          have cv1 := run_str (P := Try.prog) (src := 29) (dst := 9) Try.underlying29 Try.underlying5 Try.underlying9 (hr0'.same hB5.s.net.fr) l.length rfl
          have fX : Fr (fun _ => False) w5 (w5.alloc (.cells #[.int .i64 aa, .int .i64 cc, .string (strOf l)] 34)) := (Fr.refl (fun _ => False) w5).alloc _
          have hhas := (hB5.same fX).s.has
          have hnews : From (w5.alloc (.cells #[.int .i64 aa, .int .i64 cc, .string (strOf l)] 34)) (some ⟨w5.heap.size, 0, none⟩) (rc (aa, cc, l)) := .inr ⟨_, _, rfl, range_block (heap_alloc_new w5 _) (fun j u hu => by rw [Nat.zero_add]; simpa [rc] using hu)⟩
          have hol := hr.byte
          clear k5 f5 o5 r5 hBW hr hr0' hb8 hnb8
          go_wp2_with (first | (at_builtin; refine wpList_append_has _ rfl _ _ 27 27 34 34 rfl iM _ 3 32 Try.underlying27 Try.underlying27 M1.out M2.out M3.out M4.out rfl (by omega) sv S.length (S.flatMap rc) rfl hhas (some ⟨w5.heap.size, 0, none⟩) 1 1 (rc (aa, cc, l)) rfl rfl hnews (rc_one _) (by unfold maxLen; omega) (by omega) ?_; intro a7 c7 w7 hown7 hfr7 hat7; have hB7 := hB5.growS (S' := S ++ [(aa, cc, l)]) fX hfr7 (by simpa using hown7) hat7; have fY : Fr (fun _ => False) w7 (w7.alloc (.cells #[.bool false] 4)) := (Fr.refl (fun _ => False) w7).alloc _; have hhas2 := (hB7.same fY).c.has; have hnews2 : From (w7.alloc (.cells #[.bool false] 4)) (some ⟨w7.heap.size, 0, none⟩) (bc false) := .inr ⟨_, _, rfl, range_block (heap_alloc_new w7 _) (fun j u hu => by rw [Nat.zero_add]; simpa [bc] using hu)⟩) | (at_builtin; refine wpList_append_has _ rfl _ _ 28 28 4 4 rfl iB _ 1 1 Try.underlying28 Try.underlying28 L1.out L2.out L3.out L4.out rfl (by omega) cv C.length (C.flatMap bc) rfl hhas2 (some ⟨w7.heap.size, 0, none⟩) 1 1 (bc false) rfl rfl hnews2 (bc_one _) (by unfold maxLen; omega) (by omega) ?_; intro a9 c9 w9 hown9 hfr9 hat9))
          have hB9 := hB7.growC (C' := C ++ [false]) fY hfr9 (by simpa using hown9) hat9
          have hpm : ((ms ++ [(⟨aa, cc, a5, c5, l⟩ : Msg)]).map Msg.cont).Perm (live (S ++ [(aa, cc, l)]) (C ++ [false])) := by
            rw [live_snoc S C HSC.out, List.map_append]
            exact hperm.append_right _
          go_roundw
          case rel =>
            exact ⟨k + 1, _, _, _, _, S ++ [(aa, cc, l)], C ++ [false], rfl, rfl, by omega, by omega, by go_num, by simp; omega, by simp; omega, by have := HSC.out; simp; omega, (fun x hx => by
              rcases List.mem_append.1 hx with h1 | h1
              · exact hoc x h1
              · obtain rfl := List.mem_singleton.1 h1
                exact hol), hB9, hpm⟩
          case measure => simp [intOf]; omega
    · have hkind2 : 2 ≤ kk := by omega
      have hkdd : decide (kk < 2) = false := by simp; omega
      clear hrW hrow0 hkind
      by_cases hin : aa < 0 ∨ (ms.length : Int) ≤ aa
      · have HI : Hid (aa < 0 ∨ (ms.length : Int) ≤ aa) := hin
        clear hin
        go_wp2_with fail
        refine (pick_no nb 3 nv ms _ hBW.s.net.net aa HI.out).mono ?_
        rintro e w5 ⟨rfl, f5⟩
        have hB5 := (hBW.same f5).same ((Fr.refl (fun _ => False) w5).alloc (.cells #[.int .i64 0, .int .i64 0, .slice none 0 0] 36))
        clear hb8 hnb8
        go_wp2
        go_roundw
        case rel => exact ⟨k + 1, _, _, _, _, _, _, rfl, rfl, by omega, by omega, by go_num, by omega, by omega, HSC.out, hoc, hB5, hperm⟩
        case measure => simp [intOf]; omega
      · obtain ⟨i, rfl⟩ : ∃ i : Nat, aa = i := ⟨aa.toNat, by omega⟩
        have hil : i < ms.length := by omega
        obtain ⟨m, hm⟩ : ∃ m, ms[i]? = some m := ⟨_, List.getElem?_eq_getElem hil⟩
        have hmm := List.mem_of_getElem? hm
        have omm := (hBW.s.net.net.bytes m hmm).1.byte
        have smm := hBW.s.net.net.small m hmm
        have hpe := erase_cont hm
        have hlive : m.cont ∈ live S C := hperm.subset (List.mem_map_of_mem hmm)
        have hpk := pick_ok nb 3 nv ms _ hBW.s.net.net i m hm
        have hml : (ms.eraseIdx i).length ≤ k := by rw [List.length_eraseIdx_of_lt hil]; omega
        obtain ⟨mf, mt, ma, mcp, ml⟩ := m
        simp only [Msg.cont] at omm smm hpe hlive hpk
        have HP : Hid ((ms.map Msg.cont).Perm ((mf, mt, ml) :: (ms.eraseIdx i).map Msg.cont)) := hpe
        have HM : Hid ((mf, mt, ml) ∈ live S C) := hlive
        have HR : Hid ((ms.map Msg.cont).Perm (live S C)) := hperm
        clear hin hil hm hmm hpe hlive hperm
        go_wp2_with fail
        refine hpk.mono ?_
        rintro e w5 ⟨a5, c5, rfl, h5, v5, k5, f5, o5, d5⟩
        have hB5 := hBW.go k5 f5 o5 (fun m hm => .inl (List.mem_of_mem_eraseIdx hm))
        have r5 : Row w5 a5 c5 ml := h5.has.bytes omm (Nat.le_trans smm (by omega))
        have hnew5 := h5.new
        have fX : Fr (fun _ => False) w5 (w5.alloc (.cells #[.int .i64 mf, .int .i64 mt, .slice a5 ml.length c5] 36)) := (Fr.refl (fun _ => False) w5).alloc _
        have hBX := hB5.same fX
        have rX := r5.same fX
        have hbX := heap_alloc_new w5 (.cells #[.int .i64 mf, .int .i64 mt, .slice a5 ml.length c5] 36)
        have hsz : (wr.alloc (.cells #[.int .i64 kk, .int .i64 (i : Int), .int .i64 cc, .slice ad l.length cp] 31)).heap.size ≤ w5.heap.size := f5.size
        have hcvl : ∀ b, cv.ownBlock = some b → b < w5.heap.size ∧ ∀ off, a5 = some ⟨b, off, none⟩ → False := fun b hb => ⟨hB5.c.has.lt hb, fun off ha => by
          have h1 := hnew5 b (by rw [ha]; rfl)
          have h2 := hBW.c.has.lt hb
          omega⟩
        have HCV : Hid (∀ b, cv.ownBlock = some b → b < w5.heap.size ∧ ∀ off, a5 = some ⟨b, off, none⟩ → False) := hcvl
        generalize hmE : ms.eraseIdx i = ms5 at *
        clear hmE k5 f5 o5 d5 h5 hpk hBW hB5 r5 hb8 hnb8 hnew5 hcvl fX hsz
        obtain ⟨asv, csv, hsv, _, _⟩ := hBX.s.has.slice
        subst hsv
        go_wp2
        go_loopw [11, 70] (fun fd t wr => ∃ (j : Nat) (C' : List Bool) (found : Bool), j ≤ S.length ∧ t = .int .i64 j ∧ fd = .bool found ∧ sought S C C' (mf, mt, ml) j found ∧ B2 w wr nb 3 v5 ms5 (.slice asv S.length csv) S cv C' ∧ Row wr a5 c5 ml ∧ wr.heap[w5.heap.size]? = some (.cells #[.int .i64 mf, .int .i64 mt, .slice a5 ml.length c5] 36 (0, 0)))
          (fun _ t _ => S.length - (intOf t).toNat)
        case atStart => exact ⟨0, C, false, by omega, rfl, rfl, .inl ⟨rfl, rfl, fun i hi => absurd hi (Nat.not_lt_zero _)⟩, hBX, rX, hbX⟩
        case round =>
        clear hBX rX hbX
        obtain ⟨j, C', found, hj, rfl, rfl, hso, hB6, r6, hb6⟩ := hrel
        have HCl : Hid (C'.length = C.length) := hso.len
        by_cases hjl : j < S.length
        · obtain ⟨y, hy⟩ : ∃ y, S[j]? = some y := ⟨_, List.getElem?_eq_getElem hjl⟩
          have hjc' : j < C'.length := by rw [HCl.out, ← HSC.out]; exact hjl
          obtain ⟨gs, caps, hvs, _, _, _, _, _⟩ := hB6.s.has.form (by omega)
          simp only [Value.slice.injEq, true_and] at hvs
          obtain ⟨rfl, rfl⟩ := hvs
          have he := hB6.s.has.elem rc_length hy
          obtain ⟨yf, yt, yl⟩ := y
          have oy := hoc (yf, yt, yl) (List.mem_of_getElem? hy)
          have s0 := he 0 (.int .i64 yf) rfl
          have s1 := he 1 (.int .i64 yt) rfl
          have s2 := he 2 (.string (strOf yl)) rfl
          rw [Nat.add_zero] at s0
          have fW : Fr (fun _ => False) wr (wr.alloc (.cells #[.int .i64 yf, .int .i64 yt, .string (strOf yl)] 34)) := (Fr.refl (fun _ => False) wr).alloc _
          have hBW6 := hB6.same fW
          have r6' := r6.same fW
          have hbW6 := fW.block_eq hb6 (fun f => f)
          obtain ⟨gc, capc, rfl, hfz, hcc, hset⟩ := hBW6.set hjc'
          have q0 := cell_at hbW6 0
          have q1 := cell_at hbW6 1
          have q2 := cell_at hbW6 2
          simp only [List.getElem?_toArray, List.getElem?_cons_zero, List.getElem?_cons_succ] at q0 q1 q2
          have cvs := run_str (P := Try.prog) (src := 29) (dst := 9) Try.underlying29 Try.underlying5 Try.underlying9 r6' ml.length rfl
          have hji : (j : Int) < (S.length : Int) := by omega
          have hjci : (j : Int) < (C'.length : Int) := by omega
          have HY : Hid (S[j]? = some (yf, yt, yl)) := hy
          have HSO : Hid (sought S C C' (mf, mt, ml) j found) := hso
          have hgd : C'[j]? = some (C'.getD j false) := by rw [List.getD_eq_getElem?_getD, List.getElem?_eq_getElem hjc']; rfl
          have HG : Hid (C'[j]? = some (C'.getD j false)) := hgd
          have hgc : gc ≠ w5.heap.size := fun e => by have := HCV.out gc rfl; omega
          generalize C'.getD j false = bj at *
          clear he hy hB6 r6 hb6 hso hgd hjc' hjl
          cases found
          · cases bj
            · by_cases e1 : yf = mf
              · subst e1
                by_cases e2 : yt = mt
                · subst e2
                  by_cases e3 : yl = ml
                  · subst e3
                    have hhit := HSO.out.hit HY.out HG.out
                    have hB7 := hset true
                    have r7 := r6'.fr (S := fun k => k = gc) ((Fr.refl (fun k => k = gc) _).setCell (p := ⟨gc, j, none⟩) (fun _ => rfl) (.bool true)) (fun b off ha _ e => by
                      subst e
                      exact (HCV.out b rfl).2 off ha)
                    have hb7 := (((Fr.refl (fun k => k = gc) _).setCell (p := ⟨gc, j, none⟩) (fun _ => rfl) (.bool true)) : Fr (fun k => k = gc) (wr.alloc (.cells #[.int .i64 yf, .int .i64 yt, .string (strOf yl)] 34)) _).block_eq hbW6 (fun e => hgc e.symm)
                    clear HSO HY HG hset
                    go_wp2
                    go_roundw
                    case rel => exact ⟨j + 1, _, true, by omega, by go_num, rfl, hhit, hB7, r7, hb7⟩
                    case measure => simp [intOf]; omega
                  · have hskip := HSO.out.skip HY.out (.inr (.inr (fun e => e3 (congrArg (fun x : Say => x.2.2) e))))
                    have hne : ((strOf yl).toList == (strOf ml).toList) = false := by rw [str_eq oy omm]; simpa using e3
                    have hne2 : ¬ strOf yl = strOf ml := fun e => e3 (strOf_inj oy omm e)
                    clear HSO HY HG hset e3
                    go_wp2
                    go_roundw
                    case rel => exact ⟨j + 1, C', _, by omega, by go_num, rfl, hskip, hBW6, r6', hbW6⟩
                    case measure => simp [intOf]; omega
                · have hskip := HSO.out.skip HY.out (.inr (.inr (fun e => e2 (congrArg (fun x : Say => x.2.1) e))))
                  have hne : (yt == mt) = false := by simpa using e2
                  clear HSO HY HG hset e2
                  go_wp2
                  go_roundw
                  case rel => exact ⟨j + 1, C', _, by omega, by go_num, rfl, hskip, hBW6, r6', hbW6⟩
                  case measure => simp [intOf]; omega
              · have hskip := HSO.out.skip HY.out (.inr (.inr (fun e => e1 (by have := congrArg Prod.fst e; simpa using this))))
                have hne : (yf == mf) = false := by simpa using e1
                clear HSO HY HG hset e1
                go_wp2
                go_roundw
                case rel => exact ⟨j + 1, C', _, by omega, by go_num, rfl, hskip, hBW6, r6', hbW6⟩
                case measure => simp [intOf]; omega
            · have hskip := HSO.out.skip HY.out (.inr (.inl HG.out))
              clear HSO HY HG hset
              go_wp2
              go_roundw
              case rel => exact ⟨j + 1, C', _, by omega, by go_num, rfl, hskip, hBW6, r6', hbW6⟩
              case measure => simp [intOf]; omega
          · have hskip := HSO.out.skip HY.out (.inl rfl)
            clear HSO HY HG hset
            go_wp2
            go_roundw
            case rel => exact ⟨j + 1, C', _, by omega, by go_num, rfl, hskip, hBW6, r6', hbW6⟩
            case measure => simp [intOf]; omega
        have hjn : S.length = j := by omega
        subst hjn
        obtain ⟨rfl, hpl⟩ := hso.done HM.out
        have hfin : (ms5.map Msg.cont).Perm (live S C') := by
          have h1 := HP.out.symm.trans (HR.out.trans hpl)
          exact (List.perm_cons _).1 h1
        have hSC' : Hid (S.length = C'.length) := by show _ = _; rw [HCl.out]; exact HSC.out
        clear hjl hso
        go_wp2
        go_roundw
        case rel => exact ⟨k + 1, _, _, _, _, _, _, rfl, rfl, by omega, by omega, by go_num, by omega, by omega, hSC'.out, hoc, hB6, hfin⟩
        case measure => simp [intOf]; omega
  have hkn : n = k := by omega
  subst hkn
  clear hlt
  go_wp2_with fail
  refine (speaks_any _).mono ?_
  rintro e w9 ⟨rfl, f9⟩
  go_wp2
  go_ret
  exact ⟨rfl, hB.s.net.fr.false_trans f9⟩

set_option maxRecDepth 100000 in
theorem lifted (os : Os) (started : os.Started) (H : Type) (enc : TypeId × Value → H) :
    ReturnsInHanded {} Try.checked os 3 .any (Rows.netOnceSpec.pre6 enc Try.prog Try.f3 Rows.netOnceRow.domain false) (Rows.netOnceSpec.post enc Try.prog Try.f3 false true false false) := by
  refine returnsInHanded_of_change_sized (C := Try.checked) own started (by kernel_rfl) Try.func3
    (ChangeSpec.witness6 (enc := enc) (C := Try.checked) false ⟨#[], #[.slice none 0 0], []⟩ 8 (by kernel_rfl) (by kernel_rfl) (by kernel_rfl) (by kernel_rfl)) ?_
  intro W base args ds gs before hval0 hW hcnd hsz0 _
  have hsz : (DataW.weightsEach Try.prog (Try.f3.params.toList ++ Rows.netOnceSpec.plain.varTypes Try.prog) (ds ++ gs)).all (· ≤ reachBytes) = true := hsz0
  clear hsz0
  have hval : ∀ (j : Nat) t v, Try.f3.params[j]? = some t → args[j]? = some v → Value.okWide Try.prog W .any base t v := hval0
  have hW' := hW
  obtain ⟨p, q, hA0, hV, rfl, hfz, hnd⟩ := hW
  have hA : DataW.TrodAll enc Try.prog W 0 (fun _ => true) true Try.f3.params.toList args.toList ds p := hA0
  rw [Try.params3] at hA hval hsz
  obtain ⟨v0, vs0, d0, ds0, p0, q0, hargs, rfl, rfl, h0, r0⟩ := trodAll_cons hA
  obtain ⟨rfl, rfl, rfl⟩ := trodAll_nil r0
  obtain rfl : args = #[v0] := by cases args; simp_all
  obtain ⟨rfl, rfl⟩ := trodVars_none hV
  obtain ⟨a0, len0, cap0, rfl⟩ := okWide_slice Try.underlying22 (hval 0 22 v0 rfl rfl)
  have k0 := h0
  have lt0 : ∀ x ∈ p0, x.block < W.heap.size := by obtain ⟨m, hm⟩ := k0; exact DataW.trod_lt m _ _ _ hm
  obtain ⟨ss0, hl0, hr0⟩ : ∃ ss : List St, len0 = ss.length ∧ Steps W a0 cap0 ss := by
    obtain ⟨fuel, hf⟩ := h0
    obtain ⟨ss, e1, e2, e3⟩ := steps_open Try.underlying22 Try.underlying31 ⟨⟨rfl, rfl⟩, ⟨rfl, rfl⟩, ⟨rfl, rfl⟩, ⟨rfl, rfl⟩⟩ (by kernel_rfl) hf
    exact ⟨ss, e1, e2⟩
  clear hA0 hval0
  refine (walk W a0 len0 cap0 ss0 hl0 hr0).mono fun e W' ⟨he, fr⟩ => ?_
  have bel : Below W.heap.size W W' := fr.below (Nat.le_refl _) (fun _ f => f.elim)
  subst he
  exact ⟨_, rfl, _, _, _, [], _, [], hW', trodAll_mk1 (shut_bool Try.underlying4 _), (trodAll_cons_mk (Below.trod laidOut (by kernel_rfl) (of_decide_eq_true (by kernel_rfl)) k0 bel lt0) trodAll_mk0), rfl, bel.frame _, fun h => by cases h⟩

theorem proved : Rows.NetOnceSaid :=
  OpenClaim.holds_of_wide 3 Try.f3 rfl rfl rfl rfl rfl rfl rfl ⟨rfl, rfl, rfl, rfl, rfl⟩ rfl rfl rfl rfl rfl (by kernel_rfl) Try.func3 (by kernel_rfl)
    (of_decide_eq_true (by kernel_rfl)) (by unfold Func.isWrapper; first | (rw [if_pos (by decide +kernel)]; kernel_rfl) | (rw [if_neg (by decide +kernel)]; exact ⟨rfl, rfl⟩))
    (fun os started H enc _ => lifted os started H enc)
end Go.Proofs.Ytplkdjmajagpcab.netOnce
namespace Go.Proofs.Ytplkdjmajagpcab
theorem netOnce_holds : Rows.NetOnceSaid := netOnce.proved
#print axioms netOnce_holds
end Go.Proofs.Ytplkdjmajagpcab
