
/- RwHist, RwLost, RwSpk. -/
import Derived.Test.YtjokilehfmongaaGreatRN7
import Derived.Deep.QuietTactic
import Derived.BigQuiet
/- The history of records. -/
namespace Go.Proofs.YtjokilehfmongaaGreat
open Go.RowKit

def comB (r : Rec) : Bool := (r.kind == 7) && rok r
def hist (rs : List Rec) : List Rec := rs.filter comB
theorem hist_yes {ls : List Rec} {k : Nat} {r : Rec} (h : ls[k]? = some r) (hc : comB r = true) : hist (ls.take (k + 1)) = hist (ls.take k) ++ [r] := by
  unfold hist; rw [take_snocR h, List.filter_append, List.filter_cons_of_pos (by simpa using hc)]; rfl
theorem hist_no {ls : List Rec} {k : Nat} {r : Rec} (h : ls[k]? = some r) (hc : comB r = false) : hist (ls.take (k + 1)) = hist (ls.take k) := by
  unfold hist; rw [take_snocR h, List.filter_append, List.filter_cons_of_neg (by simp [hc])]; simp
theorem hist_len (ls : List Rec) : (hist ls).length ≤ ls.length := List.length_filter_le _ _
theorem comB_kind {r : Rec} (h : r.kind ≠ 7) : comB r = false := by unfold comB; simp [h]
theorem Recs.of {w : World} {v : Value} {ls : List Rec} (h : Has w 8 v ls.length (ls.flatMap recC)) : ∃ a c, v = .slice a ls.length c ∧ Recs w a c ls := by
  obtain ⟨a, c, rfl, h1, h2⟩ := h.slice
  refine ⟨a, c, rfl, h1, by unfold maxLen at h2; omega, ?_⟩
  by_cases h0 : ls.length = 0
  · exact .inl (List.eq_nil_of_length_eq_zero h0)
  · obtain ⟨g, cap, hv, hg, _⟩ := h.form (by omega)
    simp only [Value.slice.injEq, true_and] at hv
    obtain ⟨rfl, rfl⟩ := hv
    refine .inr ⟨g, 0, rfl, hg, fun i e he => ?_⟩
    have hr := h.elem recC_length he
    rw [Nat.zero_add]
    exact hr
theorem check7 (lsn ep page other req : Int) (key val : ByteArray) (w : World) : Calls Tryz.prog 44 #[.agg #[.int .i64 lsn, .int .i64 ep, .int .i64 7, .int .i64 page, .int .i64 other, .int .i64 req, .string key, .string val]] w fun e w' => e = .returned (.int .i64 (if comB ⟨lsn, ep, 7, page, other, req, key, val⟩ = true then 0 else 90)) ∧ Fr (fun _ => False) w w' := by
  have h := rec_check ⟨lsn, ep, 7, page, other, req, key, val⟩ w
  have e : erec ⟨lsn, ep, 7, page, other, req, key, val⟩ = if comB ⟨lsn, ep, 7, page, other, req, key, val⟩ = true then 0 else 90 := by
    have hc : comB ⟨lsn, ep, 7, page, other, req, key, val⟩ = rok ⟨lsn, ep, 7, page, other, req, key, val⟩ := by simp [comB]
    rw [hc]
    cases hr : rok ⟨lsn, ep, 7, page, other, req, key, val⟩ with
    | true => rw [erec_yes hr]; rfl
    | false => rw [erec_no hr]; rfl
  rw [← e]
  exact h
/-- What a call leaves that answers a list of records of its own. -/
def RcOut (w : World) (ls : List Rec) (e : Ending) (w' : World) : Prop := ∃ a c, e = .returned (.slice a ls.length c) ∧ Recs w' a c ls ∧ (∀ g, (Value.slice a ls.length c).ownBlock = some g → w.heap.size ≤ g) ∧ Fr (fun _ => False) w w'

set_option maxRecDepth 100000 in
set_option maxHeartbeats 4000000 in
theorem history_any (a : Option Addr) (n c : Nat) (ls : List Rec) (hn : n = ls.length) (hf : n ≤ 1000000) (w : World) (h : Recs w a c ls) :
    Calls Tryz.prog 87 #[.slice a n c] w fun e w' => RcOut w (hist ls) e w' := by
  obtain ⟨iR, hiR, hR0, hR1, hR2⟩ := info_parts infoRc
  have hle : n ≤ c := by rw [hn]; exact h.le
  have hmx := h.max
  have HS : Hid (∀ W, Fr (fun _ => False) w W → Recs W a c ls) := fun W f => h.same f
  have HN : Hid (n = ls.length) := hn
  clear h hn
  go_enter Tryz.func87, Tryz.ntmps87
  go_wp2
  go_loopw [8, 3] (fun i o wr => ∃ (k m : Nat) (a' : Option Addr) (c' : Nat), k ≤ n ∧ i = .int .i64 k ∧ o = .slice a' m c' ∧ Hid (m = (hist (ls.take k)).length) ∧ Hid (Has wr 8 (.slice a' m c') m ((hist (ls.take k)).flatMap recC)) ∧ Hid (∀ g, (Value.slice a' m c').ownBlock = some g → w.heap.size ≤ g) ∧ Fr (fun _ => False) w wr) (fun i _ _ => n - (intOf i).toNat)
  case atStart => exact ⟨0, 0, none, 0, by omega, rfl, rfl, rfl, Has.nil _ _, (fun g e => by cases e), Fr.refl _ _⟩
  case round =>
    obtain ⟨k, m, a', c', hk, rfl, rfl, HM, HH, HO, F⟩ := hrel
    by_cases hlt : k < n
    · obtain ⟨r, hr⟩ : ∃ r, ls[k]? = some r := ⟨_, List.getElem?_eq_getElem (by have := HN.out; omega)⟩
      obtain ⟨bb, off, rfl, hbb, hcc⟩ := (HS.out _ F).some (by have := HN.out; omega)
      have HY : Hid (comB r = true → hist (ls.take (k + 1)) = hist (ls.take k) ++ [r]) := hist_yes hr
      have HNO : Hid (comB r = false → hist (ls.take (k + 1)) = hist (ls.take k)) := hist_no hr
      have hml : m ≤ 1000000 := by have := HM.out; have := hist_len (ls.take k); have : (ls.take k).length ≤ k := List.length_take_le _ _; omega
      have hqq := rec_range (hcc k r hr)
      obtain ⟨lsn, ep, kind, page, other, req, key, val⟩ := r
      dsimp only at hqq
      obtain ⟨q0, q1, q2, q3, q4, q5, q6, q7⟩ := hqq
      have hki : (k : Int) < (n : Int) := by omega
      have HB : Hid (∀ W, Fr (fun _ => False) (wr.alloc (.cells #[.int .i64 lsn, .int .i64 ep, .int .i64 kind, .int .i64 page, .int .i64 other, .int .i64 req, .string key, .string val] 37)) W → W.heap[wr.heap.size]? = some (.cells #[.int .i64 lsn, .int .i64 ep, .int .i64 kind, .int .i64 page, .int .i64 other, .int .i64 req, .string key, .string val] 37 (0, 0))) := fun W f => f.blk (heap_alloc_new wr _) (fun f => f)
      clear hr hcc
      by_cases h7 : kind = 7
      · subst h7
        have hck := check7 lsn ep page other req key val
        cases hcb : comB ⟨lsn, ep, 7, page, other, req, key, val⟩ with
        | true =>
          rw [hcb] at hck
          simp only [if_true] at hck
          have HTK := HY.out hcb
          clear HY HNO
          go_wp2_with fail
          refine (hck _).mono ?_
          rintro e w3 ⟨rfl, f3⟩
          have F3 := (Fr.box wr (.cells #[.int .i64 lsn, .int .i64 ep, .int .i64 7, .int .i64 page, .int .i64 other, .int .i64 req, .string key, .string val] 37)).seq' f3
          obtain ⟨⟨p0, p1, p2, p3, p4, p5, p6, p7⟩, qz⟩ := rec_cells (HB.out w3 f3)
          have P6 := Fr.box w3 (.cells #[.int .i64 lsn, .int .i64 ep, .int .i64 7, .int .i64 page, .int .i64 other, .int .i64 req, .string key, .string val] 37)
          have HRW : Hid (Has (w3.alloc (.cells #[.int .i64 lsn, .int .i64 ep, .int .i64 7, .int .i64 page, .int .i64 other, .int .i64 req, .string key, .string val] 37)) 8 (.slice a' m c') m ((hist (ls.take k)).flatMap recC)) := HH.out.fr (F3.seq' P6) (fun _ _ f => f)
          have FF : Fr (fun _ => False) w (w3.alloc (.cells #[.int .i64 lsn, .int .i64 ep, .int .i64 7, .int .i64 page, .int .i64 other, .int .i64 req, .string key, .string val] 37)) := F.seq' (F3.seq' P6)
          have HNE : Hid (From (w3.alloc (.cells #[.int .i64 lsn, .int .i64 ep, .int .i64 7, .int .i64 page, .int .i64 other, .int .i64 req, .string key, .string val] 37)) (some ⟨w3.heap.size, 0, none⟩) (recC ⟨lsn, ep, 7, page, other, req, key, val⟩)) := .inr ⟨_, _, rfl, range_block (heap_alloc_new w3 _) (xs := recC ⟨lsn, ep, 7, page, other, req, key, val⟩) (o := 0) (fun j v hv => by rw [Nat.zero_add]; simpa [recC] using hv)⟩
          clear hck P6 F3 qz f3
          go_wp2_with (at_builtin; refine wpList_append_has _ rfl (.tmp 20) (.tmp 22) 33 33 37 37 rfl iR _ 8 80 Tryz.underlying33 Tryz.underlying33 hiR hR0 hR1 hR2 rfl (by omega) (.slice a' m c') m ((hist (ls.take k)).flatMap recC) rfl HRW.out (some ⟨w3.heap.size, 0, none⟩) 1 1 (recC ⟨lsn, ep, 7, page, other, req, key, val⟩) rfl rfl HNE.out (recC_one _) (by unfold maxLen; omega) (by omega) ?_; intro a4 c4 w8 ht4 f34 hat4)
          have HT5 : Hid (Has w8 8 (.slice a4 (m + 1) c4) (m + 1) ((hist (ls.take (k + 1))).flatMap recC)) := by
            show Has _ _ _ _ _
            rw [HTK, List.flatMap_append]
            simpa using ht4
          have HM5 : Hid (m + 1 = (hist (ls.take (k + 1))).length) := by show _ = _; rw [HTK]; have := HM.out; simp; omega
          have HO5 : Hid (∀ g, (Value.slice a4 (m + 1) c4).ownBlock = some g → w.heap.size ≤ g) := fun g e => by
            have hz := FF.size
            simp at hz
            rcases hat4 with h1 | h1
            · rw [h1] at e; exact HO.out g e
            · rw [h1] at e; simp at e; omega
          have F5 : Fr (fun _ => False) w w8 := FF.trans f34 (fun i hi e => by have := HO.out i e.1; omega)
          clear ht4 hat4 f34 FF q0 q1 q2 q3 q4 q5 q6 q7 p0 p1 p2 p3 p4 p5 p6 p7 HRW HNE HTK
          go_wp2
          go_roundw
          case rel => exact ⟨k + 1, m + 1, a4, c4, by omega, by go_num, rfl, HM5, HT5, HO5, F5⟩
          case measure => simp [intOf]; omega
        | false =>
          rw [hcb] at hck
          simp only [Bool.false_eq_true, if_false] at hck
          have HTK := HNO.out hcb
          clear HY HNO
          have HT5 : Hid (∀ W, Fr (fun _ => False) wr W → Has W 8 (.slice a' m c') m ((hist (ls.take (k + 1))).flatMap recC)) := fun W f => by rw [HTK]; exact HH.out.fr f (fun _ _ f => f)
          have HM5 : Hid (m = (hist (ls.take (k + 1))).length) := by show _ = _; rw [HTK]; exact HM.out
          clear HTK
          go_wp2_with fail
          refine (hck _).mono ?_
          rintro e w3 ⟨rfl, f3⟩
          have F3 := (Fr.box wr (.cells #[.int .i64 lsn, .int .i64 ep, .int .i64 7, .int .i64 page, .int .i64 other, .int .i64 req, .string key, .string val] 37)).seq' f3
          clear hck f3
          go_wp2
          go_roundw
          case rel => exact ⟨k + 1, m, a', c', by omega, by go_num, rfl, HM5, HT5.out _ F3, HO, F.seq' F3⟩
          case measure => simp [intOf]; omega
      · have h7' : (kind == 7) = false := by simpa using h7
        have HTK := HNO.out (comB_kind h7)
        have HT5 : Hid (∀ W, Fr (fun _ => False) wr W → Has W 8 (.slice a' m c') m ((hist (ls.take (k + 1))).flatMap recC)) := fun W f => by rw [HTK]; exact HH.out.fr f (fun _ _ f => f)
        have HM5 : Hid (m = (hist (ls.take (k + 1))).length) := by show _ = _; rw [HTK]; exact HM.out
        clear HTK HY HNO h7
        go_wp2
        go_roundw
        case rel => exact ⟨k + 1, m, a', c', by omega, by go_num, rfl, HM5, HT5.out _ (Fr.box wr _), HO, F.seq' (Fr.box wr _)⟩
        case measure => simp [intOf]; omega
    · obtain rfl : k = n := by omega
      have HFIN : Hid (RcOut w (hist ls) (.returned (.slice a' m c')) wr) := by
        have hk := HN.out
        subst hk
        have hh := HH.out
        have hm := HM.out
        have ho := HO.out
        rw [List.take_of_length_le (by omega)] at hh hm
        subst hm
        obtain ⟨a2, c2, e, hr⟩ := Recs.of hh
        simp only [Value.slice.injEq, true_and] at e
        obtain ⟨rfl, rfl⟩ := e
        exact ⟨_, _, rfl, hr, ho, F⟩
      go_wp2
      go_ret
      exact HFIN.out
end Go.Proofs.YtjokilehfmongaaGreat

/- Requests that are lost. -/
namespace Go.Proofs.YtjokilehfmongaaGreat
open Go.RowKit

def rwI (x : Int) : Value := .int .i64 x
theorem rinfoI : (Tryz.prog.info? 3).map (fun i => (i.zero, i.size, i.bytes)) = some (some (.int .i64 0), 1, 8) := by kernel_rfl
theorem rapp_has {w : World} {v : Value} {l : List Int} (x : Int) (h : Has w 1 v l.length (l.map rwI)) (hl : l.length + 1 ≤ 1000000000) :
    ∃ a' c' w', (Builtin.append_ #[51, 51] 51 #[v, .slice (some ⟨w.heap.size, 0, none⟩) 1 1]).run Tryz.prog (w.alloc (.cells #[.int .i64 x] 3)) = .ok (.slice a' (l.length + 1) c') w' ∧ Has w' 1 (.slice a' (l.length + 1) c') (l ++ [x]).length ((l ++ [x]).map rwI) ∧ Fr (fun k => v.ownBlock = some k) w w' ∧ ((Value.slice a' (l.length + 1) c').ownBlock = v.ownBlock ∨ (Value.slice a' (l.length + 1) c').ownBlock = some (w.heap.size + 1)) := by
  obtain ⟨i, hi, hi1, hi2, hi3⟩ : ∃ i, Tryz.prog.info? 3 = some i ∧ i.zero = some (.int .i64 0) ∧ i.size = 1 ∧ i.bytes = 8 := by
    have := rinfoI
    cases hh : Tryz.prog.info? 3 with
    | none => rw [hh] at this; cases this
    | some i =>
      rw [hh] at this
      simp only [Option.map_some, Option.some.injEq, Prod.mk.injEq] at this
      exact ⟨i, rfl, this.1, this.2.1, this.2.2⟩
  have fb := Fr.box w (.cells #[.int .i64 x] 3)
  have hc : (w.alloc (.cells #[.int .i64 x] 3)).cell? ⟨w.heap.size, 0, none⟩ = some (.int .i64 x) := by rw [cell_of_row _ _ _ _ _ _ (heap_alloc_new w (.cells #[.int .i64 x] 3))]; rfl
  have h' := h.fr fb (fun _ _ f => f)
  obtain ⟨v', w', hrun, h2, h3, h4⟩ := run_append_has (P := Tryz.prog) (w.alloc (.cells #[.int .i64 x] 3)) 51 51 51 3 3 i (.int .i64 0) 1 8 Tryz.underlying51 Tryz.underlying51 hi hi1 hi2 hi3 rfl (by omega) v l.length (l.map rwI) h' (some ⟨w.heap.size, 0, none⟩) 1 1 [.int .i64 x] rfl
    (.inr ⟨w.heap.size, 0, rfl, fun j u hu => by
      cases j with
      | zero => simp at hu; subst hu; simp [hc]
      | succ j => simp at hu⟩) (fun u hu => by simp at hu; subst hu; rfl) (by unfold maxLen; omega) (by omega)
  obtain ⟨a', c', rfl, _⟩ := h2.slice
  refine ⟨a', c', w', hrun, ?_, (fb.mono (T := fun k => v.ownBlock = some k) (fun i hi e => e.elim)).trans h3 (fun i hi e => e.1), ?_⟩
  · have e1 : l.map rwI ++ [.int .i64 x] = (l ++ [x]).map rwI := by simp [rwI]
    rw [e1] at h2
    simpa using h2
  · rcases h4 with e | e
    · exact .inl e
    · right; rw [e]; simp
theorem rapp_step {P : Program} {w w' : World} {ops : Array Oper} {rest : List Oper} {o : Oper} {ac : Act} {Q : Exit → Act → World → Prop} {v x v' : Value} (hgd : o.guard = none) (sl xo : Operand) (t : TypeId)
    (ho : o.op = .call { callee := .builtin .append, args := #[sl, xo], argTypes := #[t, t] }) (hse : ac.eval sl = v) (hxe : ac.eval xo = x) (hrun : (Builtin.append_ #[t, t] o.type #[v, x]).run P w = .ok v' w')
    (h : wpList P ops Q rest (ac.put o.dst v') w') : wpList P ops Q (o :: rest) ac w :=
  wpList_plain hgd fun _ hK => by
    unfold Oper.wp execOp
    simp only [ho, resolve, invoke, builtin, Sem.run_bind, Sem.run_pure, Result.andThen_ok, List.map_toArray, List.map_cons, List.map_nil, hse, hxe, hrun]
    exact hK _ _ h
theorem recs_drop {w : World} {b off c : Nat} {rs : List Rec} (h : Recs w (some ⟨b, off, none⟩) c rs) (k : Nat) (hk : k < rs.length) : Recs w (some ⟨b, off + k * 8, none⟩) (c - k) (rs.drop k) := by
  refine ⟨by have := h.le; rw [List.length_drop]; omega, by have := h.max; omega, ?_⟩
  obtain ⟨b', off', he, hb, hc⟩ := h.some (by omega)
  simp only [Option.some.injEq, Addr.mk.injEq, and_true] at he
  obtain ⟨rfl, rfl⟩ := he
  refine .inr ⟨b, off + k * 8, rfl, hb, fun i r hr => ?_⟩
  rw [List.getElem?_drop] at hr
  have := hc (k + i) r hr
  rwa [show off + k * 8 + i * 8 = off + (k + i) * 8 by omega]
/-- The requests of a history. -/
def rqs (rs : List Rec) : List Int := rs.map fun r => r.req
def LoOut (w : World) (ts : List Int) (e : Ending) (w' : World) : Prop := ∃ p q, e = .returned (.tuple #[.slice p ts.length q, .int .i64 0]) ∧ Has w' 1 (.slice p ts.length q) ts.length (ts.map rwI) ∧ Fr (fun _ => False) w w'
set_option maxRecDepth 100000 in
set_option maxHeartbeats 8000000 in
theorem rlost_any (b off n c k : Nat) (rs : List Rec) (hn : n = rs.length) (hf : n ≤ 1000000) (hk : k < n) (hz : rchE rs k = 0) (w : World) (h : Recs w (some ⟨b, off, none⟩) c rs) :
    Calls Tryz.prog 41 #[.slice (some ⟨b, off, none⟩) n c, .int .i64 k] w fun e w' => LoOut w (rqs (hist (rs.drop k))) e w' := by
  have hre := rreaches_any (some ⟨b, off, none⟩) n c rs k hn w h
  rw [hz] at hre
  have hle : n ≤ c := by rw [hn]; exact h.le
  have hmx := h.max
  have HD : Hid (∀ W, Fr (fun _ => False) w W → Recs W (some ⟨b, off + k * 8, none⟩) (c - k) (rs.drop k)) := fun W f => recs_drop (h.same f) k (by omega)
  obtain ⟨rd, hrd⟩ : ∃ rd, rd = rs.drop k := ⟨_, rfl⟩
  have hrl : n - k = rd.length := by rw [hrd, List.length_drop]; omega
  rw [← hrd] at HD ⊢
  have HRL : Hid (n - k = rd.length ∧ n ≤ 1000000) := ⟨hrl, hf⟩
  have HHL : Hid ((hist rd).length ≤ 1000000) := by have := hist_len rd; have := HRL.out; show _ ≤ _; omega
  obtain ⟨H, hH⟩ : ∃ H, H = hist rd := ⟨_, rfl⟩
  rw [← hH] at HHL ⊢
  have HHH : Hid (hist rd = H) := hH.symm
  clear h hn hz hrd hrl hH
  go_enter Tryz.func41, Tryz.ntmps41
  go_wp2_with fail
  refine hre.mono ?_
  rintro e w1 ⟨rfl, f1⟩
  have hh := history_any (some ⟨b, off + k * 8, none⟩) (n - k) (c - k) rd HRL.out.1 (by omega) w1 (HD.out w1 f1)
  have HF1 : Hid (Fr (fun _ => False) w w1) := f1
  rw [HHH.out] at hh
  clear hre f1
  go_wp2_with fail
  refine hh.mono ?_
  rintro e w2 ⟨ha, hc, rfl, hR, hO, f2⟩
  have HF2 : Hid (Fr (fun _ => False) w w2) := HF1.out.seq' f2
  have HS : Hid (∀ (T : Nat → Prop) W, Fr T w2 W → (∀ i, i < w2.heap.size → ¬ T i) → Recs W ha hc H) := fun T W f hT => hR.same ⟨f.os, f.tape, f.output, f.size, fun k hk _ => f.block k hk (hT k hk)⟩
  have hl1 := hR.le
  have hl2 := hR.max
  clear hh hR hO f2
  go_wp2
  go_loopw [7, 21] (fun o i wr => ∃ (j : Nat) (ts : List Int) (a' : Option Addr) (c' : Nat), j ≤ H.length ∧ o = .slice a' ts.length c' ∧ i = .int .i64 j ∧ Hid (ts = rqs (H.take j)) ∧ Hid (Has wr 1 (.slice a' ts.length c') ts.length (ts.map rwI)) ∧ Hid (∀ g, (Value.slice a' ts.length c').ownBlock = some g → w2.heap.size ≤ g) ∧ Hid (Fr (fun _ => False) w2 wr)) (fun _ i _ => H.length - (intOf i).toNat)
  case atStart => exact ⟨0, [], none, 0, by omega, rfl, rfl, rfl, Has.nil _ _, (fun g e => by cases e), Fr.refl _ _⟩
  case round =>
    obtain ⟨j, ts, a', c', hj, rfl, rfl, HT, HH, HO, HF⟩ := hrel
    by_cases hlt : j < H.length
    · obtain ⟨r, hr⟩ : ∃ r, H[j]? = some r := ⟨_, List.getElem?_eq_getElem hlt⟩
      obtain ⟨bb, of2, rfl, hbb, hcc⟩ := (HS.out _ _ HF.out (fun _ _ f => f)).some (by omega)
      have HTK : Hid (rqs (H.take (j + 1)) = rqs (H.take j) ++ [r.req]) := by show _ = _; rw [take_snocR hr]; simp [rqs]
      have hqq := rec_range (hcc j r hr)
      obtain ⟨lsn, ep, kind, page, other, req, key, val⟩ := r
      dsimp only at hqq HTK
      obtain ⟨q0, q1, q2, q3, q4, q5, q6, q7⟩ := hqq
      have hki : (j : Int) < (H.length : Int) := by omega
      have F0 := Fr.box wr (.cells #[.int .i64 lsn, .int .i64 ep, .int .i64 kind, .int .i64 page, .int .i64 other, .int .i64 req, .string key, .string val] 37)
      have htl : ts.length ≤ 1000000 := by have := HHL.out; rw [HT.out]; simp [rqs]; omega
      obtain ⟨a4, c4, w4, hrun, hh4, f4, ho4⟩ := rapp_has req (HH.out.fr F0 (fun _ _ f => f)) (by omega)
      rw [show (wr.alloc (.cells #[.int .i64 lsn, .int .i64 ep, .int .i64 kind, .int .i64 page, .int .i64 other, .int .i64 req, .string key, .string val] 37)).heap.size = wr.heap.size + 1 by simp] at hrun ho4
      have HT4 : Hid (ts ++ [req] = rqs (H.take (j + 1))) := by show _ = _; rw [HTK.out, HT.out]
      have HH4 : Hid (Has w4 1 (.slice a4 (ts ++ [req]).length c4) (ts ++ [req]).length ((ts ++ [req]).map rwI)) := by
        rw [show (ts ++ [req]).length = ts.length + 1 by simp] at hh4 ⊢
        exact hh4
      have HO4 : Hid (∀ g, (Value.slice a4 (ts ++ [req]).length c4).ownBlock = some g → w2.heap.size ≤ g) := fun g e => by
        rw [show (ts ++ [req]).length = ts.length + 1 by simp] at e
        have hz := HF.out.size
        rcases ho4 with h1 | h1
        · rw [h1] at e; exact HO.out g e
        · rw [h1] at e; simp at e; omega
      have HF4 : Hid (Fr (fun _ => False) w2 w4) := (HF.out.seq' F0).trans f4 (fun i hi e => by have := HO.out i e; omega)
      have HLE : Hid (ts.length + 1 = (ts ++ [req]).length) := by show _ = _; simp
      clear hr hcc hh4 f4 ho4 htl F0 HT HH HO HF HTK
      go_wp2_with (at_builtin; refine rapp_step rfl _ _ 51 rfl rfl rfl hrun ?_)
      refine ⟨⟨j + 1, ts ++ [req], a4, c4, by omega, by rw [HLE.out], by simp, HT4, HH4, HO4, HF4⟩, by simp [intOf]; omega⟩
    · have HE : Hid (ts = rqs H) := by have := HT.out; rw [List.take_of_length_le (by omega)] at this; exact this
      have HFIN : Hid (LoOut w (rqs H) (.returned (.tuple #[.slice a' ts.length c', .int .i64 0])) wr) := by
        rw [← HE.out]
        exact ⟨a', c', rfl, HH.out, HF2.out.seq' HF.out⟩
      clear HT HH HO HF
      go_wp2
      go_ret2
      exact HFIN.out
end Go.Proofs.YtjokilehfmongaaGreat

/- Two puts, of which one is taken back. -/
namespace Go.Proofs.YtjokilehfmongaaGreat
open Go.RowKit

/-- A slice of numbers as a walk sees it. -/
structure Is (w : World) (a : Option Addr) (cap : Nat) (xs : List Int) : Prop where
  le : xs.length ≤ cap
  max : cap ≤ 9223372036854775807
  at_ : xs = [] ∨ ∃ b off, a = some ⟨b, off, none⟩ ∧ b < w.heap.size ∧ ∀ (i : Nat) x, xs[i]? = some x → w.cell? ⟨b, off + i, none⟩ = some (.int .i64 x)
theorem Is.fr {S : Nat → Prop} {w w' : World} {a : Option Addr} {cap : Nat} {xs : List Int} (h : Is w a cap xs) (f : Fr S w w') (hn : ∀ b, b < w.heap.size → ¬ S b) : Is w' a cap xs := by
  refine ⟨h.le, h.max, ?_⟩
  rcases h.at_ with h0 | ⟨b, off, rfl, hb, hc⟩
  · exact .inl h0
  · exact .inr ⟨b, off, rfl, Nat.lt_of_lt_of_le hb f.size, fun i x hx => (f.cell (p := ⟨b, _, none⟩) hb (hn b hb)).trans (hc i x hx)⟩
theorem Is.same {w w' : World} {a : Option Addr} {cap : Nat} {xs : List Int} (h : Is w a cap xs) (f : Fr (fun _ => False) w w') : Is w' a cap xs := h.fr f (fun _ _ f => f)
theorem Is.some {w : World} {a : Option Addr} {cap : Nat} {xs : List Int} (h : Is w a cap xs) (hn : 0 < xs.length) : ∃ b off, a = some ⟨b, off, none⟩ ∧ b < w.heap.size ∧ ∀ (i : Nat) x, xs[i]? = some x → w.cell? ⟨b, off + i, none⟩ = some (.int .i64 x) := by
  rcases h.at_ with h0 | h
  · rw [h0] at hn; simp at hn
  · exact h
set_option maxRecDepth 100000 in
set_option maxHeartbeats 1000000 in
theorem rplain_is (a1 a2 : Option Addr) (c1 c2 : Nat) (l : List Int) (w : World) (r1 : Is w a1 c1 l) (r2 : Is w a2 c2 l) :
    Calls Tryz.prog 42 #[.slice a1 l.length c1, .slice a2 l.length c2] w fun e w' => e = .returned (.bool true) ∧ Fr (fun _ => False) w w' := by
  have l1 := r1.le
  have m1 := r1.max
  have l2 := r2.le
  have m2 := r2.max
  have H1 : Hid (∀ W, Fr (fun _ => False) w W → Is W a1 c1 l) := fun W f => r1.same f
  have H2 : Hid (∀ W, Fr (fun _ => False) w W → Is W a2 c2 l) := fun W f => r2.same f
  clear r1 r2
  go_enter Tryz.func42, Tryz.ntmps42
  go_wp2
  go_loopw [13] (fun i wr => ∃ k : Nat, k ≤ l.length ∧ i = .int .i64 k ∧ Fr (fun _ => False) w wr) (fun i _ => l.length - (intOf i).toNat)
  case atStart => exact ⟨0, by omega, rfl, Fr.refl _ _⟩
  case round =>
    obtain ⟨k, hk, rfl, hf⟩ := hrel
    by_cases hlt : k < l.length
    · obtain ⟨b1, o1, rfl, hb1, hc1⟩ := (H1.out _ hf).some (by omega)
      obtain ⟨b2, o2, rfl, hb2, hc2⟩ := (H2.out _ hf).some (by omega)
      obtain ⟨s, hs⟩ : ∃ s, l[k]? = some s := ⟨_, List.getElem?_eq_getElem hlt⟩
      have k1 := hc1 k s hs
      have k2 := hc2 k s hs
      clear hs hc1 hc2
      have i1 : (k : Int) < (l.length : Int) := by omega
      go_wp2
      go_quiet (fail)
      go_wp2
      go_roundw
      case rel => exact ⟨k + 1, by omega, by go_num, hf.drewN _⟩
      case measure => simp [intOf]; omega
    · go_wp2
      go_ret
      exact ⟨rfl, hf⟩


theorem rhas_is {w : World} {a : Option Addr} {c : Nat} {l : List Int} (h : Has w 1 (.slice a l.length c) l.length (l.map rwI)) : Is w a c l := by
  obtain ⟨a', c', hv, h1, h2⟩ := h.slice
  simp only [Value.slice.injEq] at hv
  obtain ⟨_, _, rfl⟩ := hv
  refine ⟨h1, by unfold maxLen at h2; omega, ?_⟩
  by_cases h0 : l = []
  · exact .inl h0
  · obtain ⟨g, cap, hv, hg, _, _, _, h4⟩ := h.form (List.length_pos_iff.2 h0)
    simp only [Value.slice.injEq] at hv
    refine .inr ⟨g, 0, hv.1, hg, fun i x hx => ?_⟩
    exact h4 i (rwI x) (by rw [List.getElem?_map, hx]; rfl)
def r1 : Rec := ⟨1, 0, 2, 1, 0, 0, ⟨#[97]⟩, ⟨#[]⟩⟩
def r2 : Rec := ⟨2, 0, 2, 1, 0, 0, ⟨#[98]⟩, ⟨#[]⟩⟩
def r3 : Rec := ⟨3, 0, 7, 0, 2, 7, ⟨#[98]⟩, ⟨#[]⟩⟩
def n1 : Nd := ⟨0, 1, 0, ⟨#[]⟩, [⟨#[97]⟩], [⟨#[]⟩], []⟩
def n2 : Nd := ⟨0, 2, 0, ⟨#[]⟩, [⟨#[97]⟩, ⟨#[98]⟩], [⟨#[]⟩, ⟨#[]⟩], []⟩
set_option maxRecDepth 100000 in
theorem spk_rpl : rplA p0 [r1, r2, r3] = ([(1, n2)], 0) := by kernel_rfl
set_option maxRecDepth 100000 in
theorem spk_rew : rewP [(1, n2)] [r1, r2, r3] 1 = ([(1, n1)], 0) := by kernel_rfl
set_option maxRecDepth 100000 in
theorem spk_lost : rqs (hist ([r1, r2, r3].drop 1)) = [7] ∧ rchE [r1, r2, r3] 1 = 0 := ⟨by kernel_rfl, by kernel_rfl⟩
theorem recs_lit (w : World) : Recs (w.alloc (.cells #[.int .i64 1, .int .i64 0, .int .i64 2, .int .i64 1, .int .i64 0, .int .i64 0, .string ⟨#[97]⟩, .string ⟨#[]⟩, .int .i64 2, .int .i64 0, .int .i64 2, .int .i64 1, .int .i64 0, .int .i64 0, .string ⟨#[98]⟩, .string ⟨#[]⟩, .int .i64 3, .int .i64 0, .int .i64 7, .int .i64 0, .int .i64 2, .int .i64 7, .string ⟨#[98]⟩, .string ⟨#[]⟩] 37)) (some ⟨w.heap.size, 0, none⟩) 3 [r1, r2, r3] := by
  refine ⟨by simp, by omega, .inr ⟨w.heap.size, 0, rfl, by simp, fun i r hr => ?_⟩⟩
  have hb := heap_alloc_new w (.cells #[.int .i64 1, .int .i64 0, .int .i64 2, .int .i64 1, .int .i64 0, .int .i64 0, .string ⟨#[97]⟩, .string ⟨#[]⟩, .int .i64 2, .int .i64 0, .int .i64 2, .int .i64 1, .int .i64 0, .int .i64 0, .string ⟨#[98]⟩, .string ⟨#[]⟩, .int .i64 3, .int .i64 0, .int .i64 7, .int .i64 0, .int .i64 2, .int .i64 7, .string ⟨#[98]⟩, .string ⟨#[]⟩] 37)
  match i, hr with
  | 0, hr => simp at hr; subst hr; exact range_block hb (o := 0 + 0 * 8) (fun j v hv => by
      match j, hv with
      | 0, hv => exact hv | 1, hv => exact hv | 2, hv => exact hv | 3, hv => exact hv | 4, hv => exact hv | 5, hv => exact hv | 6, hv => exact hv | 7, hv => exact hv
      | (j + 8), hv => simp [recC] at hv)
  | 1, hr => simp at hr; subst hr; exact range_block hb (o := 0 + 1 * 8) (fun j v hv => by
      match j, hv with
      | 0, hv => exact hv | 1, hv => exact hv | 2, hv => exact hv | 3, hv => exact hv | 4, hv => exact hv | 5, hv => exact hv | 6, hv => exact hv | 7, hv => exact hv
      | (j + 8), hv => simp [recC] at hv)
  | 2, hr => simp at hr; subst hr; exact range_block hb (o := 0 + 2 * 8) (fun j v hv => by
      match j, hv with
      | 0, hv => exact hv | 1, hv => exact hv | 2, hv => exact hv | 3, hv => exact hv | 4, hv => exact hv | 5, hv => exact hv | 6, hv => exact hv | 7, hv => exact hv
      | (j + 8), hv => simp [recC] at hv)
  | (i + 3), hr => simp at hr
theorem slots_root (w : World) : Slots (w.alloc (.cells #[.int .i64 1, .int .i64 0, .int .i64 0, .int .i64 0, .string ⟨#[]⟩, .slice none 0 0, .slice none 0 0, .slice none 0 0] 55)) (some ⟨w.heap.size, 0, none⟩) 1 [rS] := by
  have h := has_root w
  refine ⟨by simp, by omega, .inr ⟨w.heap.size, 0, rfl, by simp, fun i s hs => ?_⟩, fun s hs => ?_⟩
  · have := Has.elem (l := [rS]) h slC_length hs
    rw [Nat.zero_add]
    exact this
  · simp at hs; subst hs; exact zn_nod _
theorem spk_size : ∀ r ∈ [r1, r2, r3], r.key.size ≤ 140737488351232 ∧ r.val.size ≤ 140737488351232 := by decide
set_option maxRecDepth 100000 in
set_option maxHeartbeats 8000000 in
theorem rwspk_any (w : World) : Calls Tryz.prog 11 #[] w fun e w' => e = .returned (.bool true) ∧ Fr (fun _ => False) w w' := by
  have HR : Hid (Recs (w.alloc (.cells #[.int .i64 1, .int .i64 0, .int .i64 2, .int .i64 1, .int .i64 0, .int .i64 0, .string ⟨#[97]⟩, .string ⟨#[]⟩, .int .i64 2, .int .i64 0, .int .i64 2, .int .i64 1, .int .i64 0, .int .i64 0, .string ⟨#[98]⟩, .string ⟨#[]⟩, .int .i64 3, .int .i64 0, .int .i64 7, .int .i64 0, .int .i64 2, .int .i64 7, .string ⟨#[98]⟩, .string ⟨#[]⟩] 37)) (some ⟨w.heap.size, 0, none⟩) 3 [r1, r2, r3]) := recs_lit w
  obtain ⟨W1, hW1⟩ : ∃ W1, W1 = w.alloc (.cells #[.int .i64 1, .int .i64 0, .int .i64 2, .int .i64 1, .int .i64 0, .int .i64 0, .string ⟨#[97]⟩, .string ⟨#[]⟩, .int .i64 2, .int .i64 0, .int .i64 2, .int .i64 1, .int .i64 0, .int .i64 0, .string ⟨#[98]⟩, .string ⟨#[]⟩, .int .i64 3, .int .i64 0, .int .i64 7, .int .i64 0, .int .i64 2, .int .i64 7, .string ⟨#[98]⟩, .string ⟨#[]⟩] 37) := ⟨_, rfl⟩
  have HW1 : Hid (w.alloc (.cells #[.int .i64 1, .int .i64 0, .int .i64 2, .int .i64 1, .int .i64 0, .int .i64 0, .string ⟨#[97]⟩, .string ⟨#[]⟩, .int .i64 2, .int .i64 0, .int .i64 2, .int .i64 1, .int .i64 0, .int .i64 0, .string ⟨#[98]⟩, .string ⟨#[]⟩, .int .i64 3, .int .i64 0, .int .i64 7, .int .i64 0, .int .i64 2, .int .i64 7, .string ⟨#[98]⟩, .string ⟨#[]⟩] 37) = W1) := hW1.symm
  have HF1 : Hid (Fr (fun _ => False) w W1) := by rw [hW1]; exact Fr.box _ _
  have HSZ : Hid (W1.heap.size = w.heap.size + 1) := by rw [hW1]; show _ = _; simp
  rw [← hW1] at HR
  obtain ⟨B, hB⟩ : ∃ B, B = w.heap.size := ⟨_, rfl⟩
  have HB : Hid (w.heap.size = B) := hB.symm
  rw [← hB] at HR HSZ
  have hrp := replay_any (some ⟨W1.heap.size, 0, none⟩) (some ⟨B, 0, none⟩) 1 1 3 3 [rS] [r1, r2, r3] rfl rfl spk_size (W1.alloc (.cells #[.int .i64 1, .int .i64 0, .int .i64 0, .int .i64 0, .string ⟨#[]⟩, .slice none 0 0, .slice none 0 0, .slice none 0 0] 55)) (slots_root W1) (HR.out.same (Fr.box _ _))
  rw [show rplA (psOf [rS]) [r1, r2, r3] = ([(1, n2)], 0) from spk_rpl, HSZ.out] at hrp
  have HF2 : Hid (Fr (fun _ => False) W1 (W1.alloc (.cells #[.int .i64 1, .int .i64 0, .int .i64 0, .int .i64 0, .string ⟨#[]⟩, .slice none 0 0, .slice none 0 0, .slice none 0 0] 55))) := Fr.box _ _
  clear hW1 hB
  go_enter Tryz.func11, Tryz.ntmps11
  go_wp2_with fail
  rw [HW1.out, HB.out]
  refine hrp.mono ?_
  rintro e w3 ⟨a3, c3, l3, rfl, hsv3, hp3, f3⟩
  have G3 := HF2.out.seq' f3
  have hl3 : l3.length = 1 := by have := congrArg List.length hp3; rw [ps_length] at this; simpa using this
  have hpg := rpages_any a3 (some ⟨B, 0, none⟩) 1 c3 3 3 l3 [r1, r2, r3] 1 hl3.symm rfl (by omega) spk_size w3 (hsv3.slots rfl) (HR.out.same G3)
  rw [hp3, spk_rew] at hpg
  rw [hl3]
  have HG3 : Hid (Fr (fun _ => False) W1 w3) := G3
  clear hrp hsv3 hp3 f3 G3 hl3
  go_wp2_with fail
  refine hpg.mono ?_
  rintro e w4 ⟨a4, c4, l4, rfl, hsv4, hp4, f4⟩
  have HG4 : Hid (Fr (fun _ => False) W1 w4) := HG3.out.seq' f4
  have hl4 : l4.length = 1 := by have := congrArg List.length hp4; rw [ps_length] at this; simpa using this
  have hlo := rlost_any B 0 3 3 1 [r1, r2, r3] rfl (by omega) (by omega) spk_lost.2 w4 (HR.out.same HG4.out)
  rw [spk_lost.1] at hlo
  have HSV : Hid (∀ W, Fr (fun _ => False) w4 W → Slots W a4 c4 l4) := fun W f => (hsv4.slots rfl).same f
  have HP4 : Hid (psOf l4 = [(1, n1)]) := hp4
  have HL4 : Hid (l4.length = 1) := hl4
  rw [hl4]
  clear hpg hsv4 hp4 f4 hl4
  go_wp2_with fail
  refine hlo.mono ?_
  rintro e w5 ⟨p5, q5, rfl, hh5, f5⟩
  rw [show [(7 : Int)].length = 1 from rfl]
  have HI5 : Hid (∀ W, Fr (fun _ => False) w5 W → Is W p5 q5 [7]) := fun W f => (rhas_is hh5).same f
  have hS5 := HSV.out w5 f5
  obtain ⟨s4, hs4⟩ : ∃ s4, l4 = [s4] := by
    have := HL4.out
    match l4, this with
    | [s], _ => exact ⟨s, rfl⟩
  have hpn : s4.nd = n1 := by
    have := HP4.out
    rw [hs4] at this
    simp [psOf] at this
    exact this.2
  obtain ⟨b4, o4, ha4, _, hc4⟩ := hS5.some (by rw [hs4]; simp)
  have hcell := (sl_range (hc4 0 s4 (by rw [hs4]; rfl))).2.2.2.2.2.1
  rw [hpn] at hcell
  rw [show (n1.keys).length = 1 from rfl] at hcell
  have hle4 := hS5.le
  have hmx4 := hS5.max
  rw [HL4.out] at hle4
  have HG5 : Hid (Fr (fun _ => False) w w5) := (HF1.out.seq' HG4.out).seq' f5
  have L7 : Is (w5.alloc (.cells #[.int .i64 7] 3)) (some ⟨w5.heap.size, 0, none⟩) 1 [7] := ⟨by simp, by omega, .inr ⟨w5.heap.size, 0, rfl, by simp, fun i x hx => by
    match i, hx with
    | 0, hx => simp at hx; subst hx; rw [cell_of_row _ _ _ _ _ _ (heap_alloc_new w5 (.cells #[.int .i64 7] 3))]; rfl
    | (i + 1), hx => simp at hx⟩⟩
  have c7 : Calls Tryz.prog 42 #[.slice p5 1 q5, .slice (some ⟨w5.heap.size, 0, none⟩) 1 1] (w5.alloc (.cells #[.int .i64 7] 3)) _ := rplain_is p5 (some ⟨w5.heap.size, 0, none⟩) q5 1 [7] _ (HI5.out _ (Fr.box _ _)) L7
  have HFB : Hid (Fr (fun _ => False) w (w5.alloc (.cells #[.int .i64 7] 3))) := HG5.out.seq' (Fr.box _ _)
  subst ha4
  clear hlo hh5 f5 hS5 hc4 L7 hs4 hpn HSV HP4
  go_wp2_with (go_at_call 42; refine c7.mono ?_; rintro e w6 ⟨rfl, f6⟩)
  go_ret
  exact ⟨rfl, HFB.out.seq' f6⟩
end Go.Proofs.YtjokilehfmongaaGreat
