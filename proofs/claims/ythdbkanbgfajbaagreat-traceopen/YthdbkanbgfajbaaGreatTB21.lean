
/- TcAsk2, TcRows, TcBrk. -/
import Derived.Test.YthdbkanbgfajbaaGreatTB18
import Derived.Test.YthdbkanbgfajbaaGreatTB20
/- The rules of a step: 4. -/
namespace Go.Proofs.YthdbkanbgfajbaaGreat
open Go.RowKit

theorem all_snoc {α : Type} {p : α → Bool} {l : List α} {k : Nat} {r : α} (h : l[k]? = some r) (hp : (l.take k).all p = true) (hr : p r = true) : (l.take (k + 1)).all p = true := by
  rw [take_snocH h, List.all_append, hp]; simp [hr]
theorem all_no {α : Type} {p : α → Bool} {l : List α} {k : Nat} {r : α} (h : l[k]? = some r) (hr : p r = false) : l.all p = false := by
  rw [List.all_eq_false]
  exact ⟨r, List.mem_of_getElem? h, by rw [hr]; simp⟩
section
variable {S : Nat → Prop} {b : Nat} {W : Wt} {K m1 m2 : Nat} {oa : Option Addr} {oc : Nat} {ha : Option Addr} {hc : Nat} {P : Int → Nat}
set_option maxRecDepth 100000 in
set_option maxHeartbeats 8000000 in
theorem r4_wi (s : Sn) (w : World) (hR : Recs w s.ha s.hc s.H) (hn : s.H.length ≤ 100000) (hreq : ∀ r ∈ s.H, wfK r.req) (h : Wi w S b W K m1 m2 oa oc ha hc P) : Calls Tryz.prog 35 #[.pointer (some ⟨b, 0, none⟩), snV s] w fun e w' => e = .returned (.bool (r4B W s)) ∧ Fr (fun _ => False) w w' := by
  have f0 := Fr.box w (.cells (snC s) 39)
  have hh := history_any s.ha s.H.length s.hc s.H rfl (by omega) _ (hR.same f0)
  have HD : Hid (∀ V, Fr (fun _ => False) w V → Wi V S b W K m1 m2 oa oc ha hc P) := fun V f => h.same f
  have HF : Hid (Fr (fun _ => False) w (w.alloc (.cells (snC s) 39))) := f0
  have HQ : Hid (∀ r ∈ hist s.H, wfK r.req) := fun r hr => hreq r (List.mem_filter.1 hr).1
  have hb : b < w.heap.size := blk_lt h.blk
  have hlen : (hist s.H).length ≤ 100000 := by have := hist_len s.H; omega
  unfold r4B
  generalize hist s.H = hs at *
  clear h f0 hR hn hreq
  obtain ⟨kind, snode, n, m, creq, cnode, ⟨ok, okey, oval⟩, ba, bn, bc, ans, aa, ac, H, sha, shc⟩ := s
  unfold snV
  unfold snC at *
  dsimp only at *
  go_enter Tryz.func35, Tryz.ntmps35
  go_wp2_with fail
  refine hh.mono ?_
  rintro e w1 ⟨a1, c1, rfl, hr1, _, f1⟩
  have F1 : Hid (Fr (fun _ => False) w w1) := HF.out.seq' f1
  have HR1 : Hid (∀ V, Fr (fun _ => False) w1 V → Recs V a1 c1 hs) := fun V f => hr1.same f
  have hle := hr1.le
  have hmx := hr1.max
  obtain ⟨L, hL⟩ : ∃ L, L = hs.length := ⟨_, rfl⟩
  have HL : Hid (L = hs.length) := hL
  rw [← hL] at hle hlen ⊢
  clear hh hr1 hL f1
  dsimp only
  go_wp2
  go_loopw [13] (fun i wr => ∃ k : Nat, k ≤ L ∧ i = .int .i64 k ∧ Hid ((hs.take k).all (askB W) = true) ∧ Fr (fun _ => False) w1 wr) (fun i _ => L - (intOf i).toNat)
  case atStart => exact ⟨0, by omega, rfl, (show _ = _ from rfl), Fr.refl _ _⟩
  case round =>
    obtain ⟨k, hk, rfl, HE, F⟩ := hrel
    by_cases hlt : k < L
    · obtain ⟨r, hr⟩ : ∃ r, hs[k]? = some r := ⟨_, List.getElem?_eq_getElem (by have := HL.out; omega)⟩
      obtain ⟨g, o, rfl, hg, hcc⟩ := (HR1.out _ F).some (by have := HL.out; omega)
      obtain ⟨q0, q1, q2, q3, q4, q5, q6, q7⟩ := rec_range (hcc k r hr)
      have hki : (k : Int) < (L : Int) := by omega
      have hx : wfK r.req := HQ.out r (List.mem_of_getElem? hr)
      have HY : Hid (askB W r = true → (hs.take (k + 1)).all (askB W) = true) := fun h => all_snoc hr HE.out h
      have HNO : Hid (askB W r = false → hs.all (askB W) = false) := fun h => all_no hr h
      have FW : Hid (∀ V, Fr (fun _ => False) wr V → Fr (fun _ => False) w V) := fun V f => (F1.out.seq' F).seq' f
      have hwi := HD.out _ (FW.out _ ((Fr.box wr (.cells #[.int .i64 r.lsn, .int .i64 r.ep, .int .i64 r.kind, .int .i64 r.page, .int .i64 r.other, .int .i64 r.req, .string r.key, .string r.val] 44)).drew))
      obtain ⟨c0, c1, c2, c3, cz⟩ := four_cells (HD.out _ (FW.out _ (Fr.box wr (.cells #[.int .i64 r.lsn, .int .i64 r.ep, .int .i64 r.kind, .int .i64 r.page, .int .i64 r.other, .int .i64 r.req, .string r.key, .string r.val] 44)))).blk
      have e1 := hwi.look hx
      have hbw : b < wr.heap.size := by have := (FW.out _ (Fr.refl _ _)).size; omega
      clear hr hcc
      cases hq : W.calls r.req with
      | none =>
        have HN : Hid (hs.all (askB W) = false) := HNO.out (by unfold askB; rw [hq])
        rw [hq] at e1
        dsimp only [Option.map, Option.getD, Option.isSome] at e1
        clear HY HNO hq hwi
        obtain ⟨lsn, ep, kd, page, other, req, key, val⟩ := r
        dsimp only at *
        go_upto_region 4 with fail
        go_cut [7, 8] (fun p t wc => p = .pointer none ∧ t = .bool false ∧ wc = (wr.alloc (.cells #[.int .i64 lsn, .int .i64 ep, .int .i64 kd, .int .i64 page, .int .i64 other, .int .i64 req, .string key, .string val] 44)).drew)
        case first =>
          go_region_law (fail)
          all_goals (go_wp2_with fail; go_meet; exact ⟨rfl, rfl, rfl⟩)
        case rest =>
        obtain ⟨rfl, rfl, rfl⟩ := hcut
        go_wp2
        go_ret
        exact ⟨ret_bool HN.out.symm, FW.out _ (Fr.box wr _).drew⟩
      | some c =>
        have hm := hwi.made _ _ hq
        have HA : Hid (askB W r = (!c.ref && saidB c r)) := by show _ = _; unfold askB; rw [hq]
        rw [hq] at e1
        dsimp only [Option.map, Option.getD, Option.isSome] at e1
        obtain ⟨p, hpp⟩ : ∃ p, p = P r.req := ⟨_, rfl⟩
        rw [← hpp] at hm e1
        have hsd := said_any c p r _ hm
        obtain ⟨d0, d1, d2, d3, d4, d5, dz⟩ := six_cells hm
        clear hq hpp hwi hm dz
        obtain ⟨lsn, ep, kd, page, other, req, key, val⟩ := r
        obtain ⟨cop, cn, ca, cr⟩ := c
        dsimp only at *
        generalize saidB ⟨cop, cn, ca, cr⟩ ⟨lsn, ep, kd, page, other, req, key, val⟩ = sb at *
        go_upto_region 4 with fail
        go_cut [7, 8] (fun t u wc => t = .pointer (some ⟨p, 0, none⟩) ∧ u = .bool true ∧ wc = (wr.alloc (.cells #[.int .i64 lsn, .int .i64 ep, .int .i64 kd, .int .i64 page, .int .i64 other, .int .i64 req, .string key, .string val] 44)).drew)
        case first =>
          go_region_law (fail)
          all_goals (go_wp2_with fail; go_meet; exact ⟨rfl, rfl, rfl⟩)
        case rest =>
        obtain ⟨rfl, rfl, rfl⟩ := hcut
        cases cr with
        | true =>
          have HN : Hid (hs.all (askB W) = false) := HNO.out (by rw [HA.out]; rfl)
          go_wp2
          go_ret
          exact ⟨ret_bool HN.out.symm, FW.out _ (Fr.box wr _).drew⟩
        | false =>
          cases sb with
          | false =>
            have HN : Hid (hs.all (askB W) = false) := HNO.out (by rw [HA.out]; rfl)
            go_wp2_with (go_at_call 44; refine hsd.mono ?_; rintro e w5 ⟨rfl, f5⟩)
            go_ret
            exact ⟨ret_bool HN.out.symm, FW.out _ ((Fr.box wr _).drew.seq' f5)⟩
          | true =>
            have HY2 : Hid ((hs.take (k + 1)).all (askB W) = true) := HY.out (by rw [HA.out]; rfl)
            go_wp2_with fail
            refine hsd.mono ?_
            rintro e w5 ⟨rfl, f5⟩
            have F5 : Fr (fun _ => False) w1 w5 := F.seq' ((Fr.box wr _).drew.seq' f5)
            clear hsd c0 c1 c2 c3 cz d0 d1 d2 d3 d4 d5 e1 q0 q1 q2 q3 q4 q5 q6 q7 f5
            dsimp only
            go_wp2
            go_roundw
            case rel => exact ⟨k + 1, by omega, by go_num, HY2, F5⟩
            case measure => simp [intOf]; omega
    · obtain rfl : k = L := by omega
      have HT : Hid (hs.all (askB W) = true) := by have h := HE.out; rw [HL.out, List.take_length] at h; exact h
      go_wp2
      go_ret
      exact ⟨ret_bool HT.out.symm, F1.out.seq' F⟩
end
end Go.Proofs.YthdbkanbgfajbaaGreat

/- The rows of rules; what a step comes to. -/
namespace Go.Proofs.YthdbkanbgfajbaaGreat
open Go.RowKit

def fnV (f : FuncId) (b : Nat) : Value := .func (.func f) #[.pointer (some ⟨b, 0, none⟩)] #[]
def rowsA (b : Nat) : Array Value := #[.int .i64 2, fnV 30 b, .int .i64 3, fnV 31 b, .int .i64 5, fnV 32 b, .int .i64 6, fnV 33 b]
def rowsS (b : Nat) : Array Value := #[.int .i64 1, fnV 34 b, .int .i64 4, fnV 35 b]
theorem aRules_any (b : Nat) (w : World) : Calls Tryz.prog 23 #[.pointer (some ⟨b, 0, none⟩)] w fun e w' => e = .returned (.slice (some ⟨w.heap.size, 0, none⟩) 4 4) ∧ w' = w.alloc (.cells (rowsA b) 71) := by
  go_enter Tryz.func23, Tryz.ntmps23
  go_wp2
  go_ret
  exact ⟨rfl, rfl⟩
theorem sRules_any (b : Nat) (w : World) : Calls Tryz.prog 24 #[.pointer (some ⟨b, 0, none⟩)] w fun e w' => e = .returned (.slice (some ⟨w.heap.size, 0, none⟩) 2 2) ∧ w' = w.alloc (.cells (rowsS b) 76) := by
  go_enter Tryz.func24, Tryz.ntmps24
  go_wp2
  go_ret
  exact ⟨rfl, rfl⟩
/-- What an answer comes to: the rule that it breaks, or 0. -/
def answR (W : Wt) (s : Sn) (a : An) : Int := if r2B W a = false then 2 else if r3B W s a = false then 3 else if r5B W s a = false then 5 else if r6B (r5W W s a) a = false then 6 else 0
def answW (W : Wt) (s : Sn) (a : An) : Wt := noteW (r5W W s a) a
/-- Answers, one behind the other: the first rule that is broken. -/
def answL : Wt → Sn → List An → Int
  | _, _, [] => 0
  | W, s, a :: l => if answR W s a = 0 then answL (answW W s a) s l else answR W s a
def answF (W : Wt) (s : Sn) (l : List An) : Wt := l.foldl (fun W a => answW W s a) W
def stpR (W : Wt) (s : Sn) : Int := if r1B W s = false then 1 else if r4B W s = false then 4 else 0
/-- The rule that a step breaks, or 0; what is known behind it. -/
def brk (W : Wt) (s : Sn) : Int := if answL (seeW W s) s s.ans = 0 then stpR (answF (seeW W s) s s.ans) s else answL (seeW W s) s s.ans
def brkW (W : Wt) (s : Sn) : Wt := { answF (seeW W s) s s.ans with h := s.H }
/-- What is asked of a step's numbers and sizes. -/
structure SnOk (s : Sn) : Prop where
  creq : wfK s.creq
  node : wfK s.node
  key : s.op.key.size ≤ maxLen
  val : s.op.val.size ≤ maxLen
  ans : ∀ a ∈ s.ans, wfK a.req ∧ wfK a.node ∧ ∀ e ∈ a.res.ents, e.1.size ≤ maxLen
  reqs : ∀ r ∈ s.H, wfK r.req
  nH : s.H.length ≤ 100000
  nA : s.ans.length ≤ 100000
def WtOk (W : Wt) : Prop := (∀ x c, W.calls x = some c → c.op.key.size ≤ maxLen ∧ c.op.val.size ≤ maxLen) ∧ W.h.length ≤ 100000
/-- A step's lists in memory, all in blocks below B. -/
structure InS (w : World) (B : Nat) (s : Sn) : Prop where
  hist : Recs w s.ha s.hc s.H
  hb : ∀ g o, s.ha = some ⟨g, o, none⟩ → s.H ≠ [] → g < B
  al : s.ans.length ≤ s.ac
  am : s.ac ≤ 9223372036854775807
  at_ : s.ans = [] ∨ ∃ g o, s.aa = some ⟨g, o, none⟩ ∧ g < B ∧ g < w.heap.size ∧ ∀ i a, s.ans[i]? = some a → w.rangeAt g (o + i * 6) (anC a).toList
  ens : ∀ a ∈ s.ans, Ens w a.ea a.ec a.res.ents ∧ ∀ g o, a.ea = some ⟨g, o, none⟩ → a.res.ents ≠ [] → g < B
theorem InS.fr {T : Nat → Prop} {w w' : World} {B : Nat} {s : Sn} (h : InS w B s) (f : Fr T w w') (hT : ∀ k, T k → B ≤ k) : InS w' B s := by
  have key : ∀ g, g < B → ¬ T g := fun g hg ht => by have := hT g ht; omega
  refine ⟨⟨h.hist.le, h.hist.max, ?_⟩, h.hb, h.al, h.am, ?_, fun a ha => ⟨⟨(h.ens a ha).1.le, (h.ens a ha).1.max, ?_⟩, (h.ens a ha).2⟩⟩
  · rcases h.hist.at_ with h0 | ⟨g, off, e, hb, hc⟩
    · exact .inl h0
    · by_cases he : s.H = []
      · exact .inl he
      · exact .inr ⟨g, off, e, Nat.lt_of_lt_of_le hb f.size, fun i r hr => range_fr (hc i r hr) f (key g (h.hb g off e he))⟩
  · rcases h.at_ with h0 | ⟨g, o, e, hg, hw, hc⟩
    · exact .inl h0
    · exact .inr ⟨g, o, e, hg, Nat.lt_of_lt_of_le hw f.size, fun i a hi => range_fr (hc i a hi) f (key g hg)⟩
  · rcases (h.ens a ha).1.at_ with h0 | ⟨g, off, e, hb, hc⟩
    · exact .inl h0
    · by_cases he : a.res.ents = []
      · exact .inl he
      · exact .inr ⟨g, off, e, Nat.lt_of_lt_of_le hb f.size, fun i r hr => range_fr (hc i r hr) f (key g ((h.ens a ha).2 g off e he))⟩
theorem InS.same {w w' : World} {B : Nat} {s : Sn} (h : InS w B s) (f : Fr (fun _ => False) w w') : InS w' B s := h.fr f (fun _ e => e.elim)
section
variable {S : Nat → Prop} {b : Nat} {W : Wt} {K : Nat} {s : Sn} {a : An} {B : Nat}
theorem Wn.same {w w' : World} (h : Wn w S b W K) (f : Fr (fun _ => False) w w') : Wn w' S b W K := by
  obtain ⟨hS, m1, m2, oa, oc, ha, hc, P, hw⟩ := h
  exact ⟨fun k hk => Nat.lt_of_lt_of_le (hS k hk) f.size, m1, m2, oa, oc, ha, hc, P, hw.same f⟩
theorem r2_any (hx : wfK a.req) (w : World) (h : Wn w S b W K) : Calls Tryz.prog 30 #[.pointer (some ⟨b, 0, none⟩), snV s, anV a] w fun e w' => e = .returned (.bool (r2B W a)) ∧ Fr (fun _ => False) w w' := by
  obtain ⟨hS, m1, m2, oa, oc, ha, hc, P, hw⟩ := h
  exact r2_wi s a hx w hw
theorem r3_any (hx : wfK a.req) (w : World) (hi : InS w B s) (hn : s.H.length ≤ 100000) (h : Wn w S b W K) : Calls Tryz.prog 31 #[.pointer (some ⟨b, 0, none⟩), snV s, anV a] w fun e w' => e = .returned (.bool (r3B W s a)) ∧ Fr (fun _ => False) w w' := by
  obtain ⟨hS, m1, m2, oa, oc, ha, hc, P, hw⟩ := h
  exact r3_wi s a hx w hi.hist hn hw
theorem r5_any (ho : SnOk s) (hW : WtOk W) (ha : a ∈ s.ans) (w : World) (hi : InS w B s) (hK : K ≤ 10000000) {c : Md} (hq : W.calls a.req = some c) (h : Wn w S b W K) : Calls Tryz.prog 32 #[.pointer (some ⟨b, 0, none⟩), snV s, anV a] w (R5O w S b W K s a) := by
  obtain ⟨hS, m1, m2, oa, oc, ha', hc, P, hw⟩ := h
  obtain ⟨q1, q2, q3⟩ := ho.ans a ha
  exact r5_wi s a q1 q2 w hS hK hq hi.hist ho.nH (hi.ens a ha).1 (hW.1 _ _ hq).1 (hW.1 _ _ hq).2 q3 hw
theorem r6_any (hx : wfK a.req) (ha : a ∈ s.ans) (w : World) (hi : InS w B s) {c : Md} (hq : W.calls a.req = some c) (h : Wn w S b W K) : Calls Tryz.prog 33 #[.pointer (some ⟨b, 0, none⟩), snV s, anV a] w fun e w' => e = .returned (.bool (r6B W a)) ∧ Fr (fun _ => False) w w' := by
  obtain ⟨hS, m1, m2, oa, oc, ha', hc, P, hw⟩ := h
  exact r6_wi s a hx w hq (hi.ens a ha).1.le (hi.ens a ha).1.max hw
theorem r1_any (ho : SnOk s) (hW : WtOk W) (w : World) (hi : InS w B s) (h : Wn w S b W K) : Calls Tryz.prog 34 #[.pointer (some ⟨b, 0, none⟩), snV s] w fun e w' => e = .returned (.bool (r1B W s)) ∧ Fr (fun _ => False) w w' := by
  obtain ⟨hS, m1, m2, oa, oc, ha, hc, P, hw⟩ := h
  exact r1_wi s w hi.hist ho.nH hW.2 hw
theorem r4_any (ho : SnOk s) (w : World) (hi : InS w B s) (h : Wn w S b W K) : Calls Tryz.prog 35 #[.pointer (some ⟨b, 0, none⟩), snV s] w fun e w' => e = .returned (.bool (r4B W s)) ∧ Fr (fun _ => False) w w' := by
  obtain ⟨hS, m1, m2, oa, oc, ha, hc, P, hw⟩ := h
  exact r4_wi s w hi.hist ho.nH ho.reqs hw
theorem note_any (hx : wfK a.req) (w : World) (h : Wn w S b W K) : Calls Tryz.prog 18 #[.pointer (some ⟨b, 0, none⟩), anV a] w fun e w' => e = .returned (.tuple #[]) ∧ WnTo w S b (noteW W a) K w' := by
  obtain ⟨hS, m1, m2, oa, oc, ha, hc, P, hw⟩ := h
  exact (note_wi a hx w hw).mono fun e w' ⟨h1, h2, h3⟩ => ⟨h1, S, ⟨fun k hk => Nat.lt_of_lt_of_le (hS k hk) h3.size, m1, m2, oa, oc, ha, hc, P, h2⟩, fun k hk => .inl hk, fun _ hk => hk, h3⟩
theorem acks_any (hx : wfK a.req) (w : World) (h : Wn w S b W K) : Calls Tryz.prog 19 #[.pointer (some ⟨b, 0, none⟩), anV a] w fun e w' => e = .returned (.bool (ackB W a)) ∧ Fr (fun _ => False) w w' := by
  obtain ⟨hS, m1, m2, oa, oc, ha, hc, P, hw⟩ := h
  exact acks_wi a hx w hw
end
theorem r2_call {W : Wt} {a : An} (h : r2B W a = true) : ∃ c, W.calls a.req = some c := by
  unfold r2B at h
  cases hq : W.calls a.req with
  | none => rw [hq] at h; cases h
  | some c => exact ⟨c, rfl⟩
theorem r5W_calls (W : Wt) (s : Sn) (a : An) : (r5W W s a).calls = W.calls ∧ (r5W W s a).order = W.order ∧ (r5W W s a).h = W.h := by
  unfold r5W
  split
  · exact ⟨rfl, rfl, rfl⟩
  · split
    · split <;> exact ⟨rfl, rfl, rfl⟩
    · exact ⟨rfl, rfl, rfl⟩
theorem WtOk.r5 {W : Wt} (h : WtOk W) (s : Sn) (a : An) : WtOk (r5W W s a) := by
  obtain ⟨e1, _, e2⟩ := r5W_calls W s a
  unfold WtOk; rw [e1, e2]; exact h
theorem WtOk.note {W : Wt} (h : WtOk W) (a : An) : WtOk (noteW W a) := by
  unfold noteW
  cases hq : W.calls a.req with
  | none => exact h
  | some c =>
    refine ⟨fun x d hx => ?_, h.2⟩
    dsimp only at hx
    by_cases e : x = a.req
    · rw [e, cupd_same] at hx; cases hx; have := h.1 _ _ hq; exact this
    · rw [cupd_other _ e] at hx; exact h.1 _ _ hx
theorem WtOk.see {W : Wt} (h : WtOk W) {s : Sn} (ho : SnOk s) : WtOk (seeW W s) := by
  unfold seeW
  split
  · unfold callW
    cases hq : W.calls s.creq with
    | some c => exact h
    | none =>
      refine ⟨fun x d hx => ?_, h.2⟩
      dsimp only at hx
      by_cases e : x = s.creq
      · rw [e, cupd_same] at hx; cases hx; exact ⟨ho.key, ho.val⟩
      · rw [cupd_other _ e] at hx; exact h.1 _ _ hx
  · split
    · exact h
    · exact h
end Go.Proofs.YthdbkanbgfajbaaGreat

/- A step's first broken rule: what stays in the midst of a step. -/
namespace Go.Proofs.YthdbkanbgfajbaaGreat
open Go.RowKit

/-- A witness in the midst of a step, and blocks that stay. -/
def Br (B : Nat) (s : Sn) (Q : List (Nat × Obj)) (S : Nat → Prop) (w : World) (b : Nat) (W : Wt) (K : Nat) (w' : World) : Prop :=
  ∃ S', Wn w' S' b W K ∧ (∀ k, S' k → S k ∨ w.heap.size ≤ k) ∧ (∀ k, S k → S' k) ∧ Fr S w w' ∧ InS w' B s ∧ ∀ p ∈ Q, w'.heap[p.1]? = some p.2 ∧ ¬ S' p.1
section
variable {B : Nat} {s : Sn} {Q : List (Nat × Obj)} {S : Nat → Prop} {w : World} {b : Nat} {W : Wt} {K : Nat}
theorem Br.step {w1 : World} (hS : ∀ k, S k → B ≤ k) (hB : B ≤ w.heap.size) {W2 : Wt} {K2 : Nat} {w2 : World} {S1 : Nat → Prop} (h1 : ∀ k, S1 k → S k ∨ w.heap.size ≤ k) (h2 : ∀ k, S k → S1 k) (f0 : Fr S w w1) (hi : InS w1 B s) (hq : ∀ p ∈ Q, w1.heap[p.1]? = some p.2 ∧ ¬ S1 p.1) (t : WnTo w1 S1 b W2 K2 w2) : Br B s Q S w b W2 K2 w2 := by
  obtain ⟨S2, g1, g2, g3, g4⟩ := t
  have hz := f0.size
  refine ⟨S2, g1, fun k hk => ?_, fun k hk => g3 k (h2 k hk), f0.trans g4 (fun i hi e => ?_), hi.fr g4 (fun k hk => ?_), fun p hp => ?_⟩
  · rcases g2 k hk with h | h
    · exact h1 k h
    · exact .inr (by omega)
  · rcases h1 i e with h | h
    · exact h
    · omega
  · rcases h1 k hk with h | h
    · exact hS k h
    · omega
  · obtain ⟨q1, q2⟩ := hq p hp
    refine ⟨(g4.block _ (blk_lt q1) q2).trans q1, fun e => ?_⟩
    rcases g2 _ e with h | h
    · exact q2 h
    · have := blk_lt q1; omega
theorem Br.same {w1 w2 : World} (h : Br B s Q S w b W K w1) (f : Fr (fun _ => False) w1 w2) : Br B s Q S w b W K w2 := by
  obtain ⟨S', h1, h2, h3, f0, hi, hq⟩ := h
  refine ⟨S', h1.same f, h2, h3, f0.trans f (fun _ _ e => e.elim), hi.same f, fun p hp => ?_⟩
  obtain ⟨q1, q2⟩ := hq p hp
  exact ⟨(f.block _ (blk_lt q1) (fun e => e)).trans q1, q2⟩
theorem Br.box {w1 : World} (h : Br B s Q S w b W K w1) (C : Array Value) (t : TypeId) : Br B s ((w1.heap.size, .cells C t (0, 0)) :: Q) S w b W K (w1.alloc (.cells C t)) := by
  obtain ⟨S', h1, h2, h3, f0, hi, hq⟩ := h
  have f := Fr.box w1 (.cells C t)
  refine ⟨S', h1.same f, h2, h3, f0.trans f (fun _ _ e => e.elim), hi.same f, fun p hp => ?_⟩
  rcases List.mem_cons.1 hp with rfl | hp
  · exact ⟨heap_alloc_new w1 _, fun e => by have := h1.1 _ e; omega⟩
  · obtain ⟨q1, q2⟩ := hq p hp
    exact ⟨(f.block _ (blk_lt q1) (fun e => e)).trans q1, q2⟩
theorem Br.sub {Q' : List (Nat × Obj)} {w1 : World} (h : Br B s Q S w b W K w1) (hs : ∀ p ∈ Q', p ∈ Q) : Br B s Q' S w b W K w1 := by
  obtain ⟨S', h1, h2, h3, f0, hi, hq⟩ := h
  exact ⟨S', h1, h2, h3, f0, hi, fun p hp => hq p (hs p hp)⟩
theorem Br.begin (h : Wn w S b W K) (hi : InS w B s) : Br B s [] S w b W K w := ⟨S, h, fun k hk => .inl hk, fun _ hk => hk, Fr.refl _ _, hi, fun p hp => by cases hp⟩
theorem Br.to {w1 : World} (h : Br B s Q S w b W K w1) : WnTo w S b W K w1 := by
  obtain ⟨S', h1, h2, h3, f0, hi, hq⟩ := h
  exact ⟨S', h1, h2, h3, f0⟩
theorem Br.frame {w1 : World} (h : Br B s Q S w b W K w1) : Fr S w w1 := by
  obtain ⟨S', h1, h2, h3, f0, hi, hq⟩ := h
  exact f0
/-- The history behind the step is the last one. -/
theorem Br.last {w1 : World} (hS : ∀ k, S k → B ≤ k) (hB : B ≤ w.heap.size) (h : Br B s Q S w b W K w1) : WnTo w S b { W with h := s.H } K (w1.setCell ⟨b, 3, none⟩ (.slice s.ha s.H.length s.hc)) := by
  obtain ⟨S', ⟨hz, m1, m2, oa, oc, ha, hc, P, h1⟩, h2, h3, f0, hi, hq⟩ := h
  have f : Fr (fun k => k = b) w1 (w1.setCell ⟨b, 3, none⟩ (.slice s.ha s.H.length s.hc)) := (Fr.refl (fun i => i = b) w1).setCell (p := ⟨b, 3, none⟩) (fun _ => rfl) _
  have hbig : ∀ k, S' k → B ≤ k := fun k hk => by
    rcases h2 k hk with h | h
    · exact hS k h
    · omega
  refine ⟨S', ⟨fun k hk => Nat.lt_of_lt_of_le (hz k hk) f.size, m1, m2, oa, oc, s.ha, s.hc, P, ?_⟩, h2, h3, f0.trans f (fun i hi e => ?_)⟩
  · obtain ⟨n1, hn1, k1⟩ := h1.calls
    obtain ⟨n2, hn2, k2⟩ := h1.floors
    obtain ⟨bm1, bm2⟩ := h1.bm
    refine ⟨?_, ⟨n1, hn1, k1.fr f (fun e => bm1 e.symm)⟩, ⟨n2, hn2, k2.fr f (fun e => bm2 e.symm)⟩, fun x c hx => (f.block _ (blk_lt (h1.made x c hx)) (fun e => (h1.apart hx).1 e)).trans (h1.made x c hx), h1.inj, h1.row.fr f (fun k e ek => (h1.oo k e).2.1 ek), ?_, h1.few, h1.ob, h1.om1, h1.om2, h1.oP, h1.oo, ?_, h1.n12⟩
    · exact set_blkT h1.blk 3 _
    · refine ⟨hi.hist.le, hi.hist.max, ?_⟩
      rcases hi.hist.at_ with h0 | ⟨g, off, e, hb, hc'⟩
      · exact .inl h0
      · by_cases he : s.H = []
        · exact .inl he
        · exact .inr ⟨g, off, e, Nat.lt_of_lt_of_le hb f.size, fun i r hr => range_fr (hc' i r hr) f (fun eg => by have := hi.hb g off e he; have := hbig b h1.ob; omega)⟩
    · intro g o e he hg
      have := hi.hb g o e he
      have := hbig g hg
      omega
  · rw [e] at hi ⊢
    rcases h2 b h1.ob with h | h
    · exact h
    · omega
end
theorem sn_cells {V : World} {g : Nat} {s : Sn} {t : TypeId} {aa : Option Addr} (he : aa = s.aa) (h : V.heap[g]? = some (.cells (snC s) t (0, 0))) : (V.cell? ⟨g, 0, none⟩ = some (.int .i64 s.kind) ∧ V.cell? ⟨g, 1, none⟩ = some (.int .i64 s.node) ∧ V.cell? ⟨g, 2, none⟩ = some (.int .i64 s.n) ∧ V.cell? ⟨g, 3, none⟩ = some (.int .i64 s.m) ∧ V.cell? ⟨g, 4, none⟩ = some (.int .i64 s.creq) ∧ V.cell? ⟨g, 5, none⟩ = some (.int .i64 s.cnode) ∧ V.cell? ⟨g, 6, none⟩ = some (.int .i64 s.op.kind) ∧ V.cell? ⟨g, 7, none⟩ = some (.string s.op.key) ∧ V.cell? ⟨g, 8, none⟩ = some (.string s.op.val) ∧ V.cell? ⟨g, 9, none⟩ = some (.slice s.ba s.bn s.bc) ∧ V.cell? ⟨g, 10, none⟩ = some (.slice aa s.ans.length s.ac) ∧ V.cell? ⟨g, 11, none⟩ = some (.slice s.ha s.H.length s.hc)) ∧ g < V.heap.size := by
  rw [he]
  exact ⟨⟨cell_blk h 0, cell_blk h 1, cell_blk h 2, cell_blk h 3, cell_blk h 4, cell_blk h 5, cell_blk h 6, cell_blk h 7, cell_blk h 8, cell_blk h 9, cell_blk h 10, cell_blk h 11⟩, blk_lt h⟩
theorem an_cells {V : World} {g : Nat} {a : An} {t : TypeId} (h : V.heap[g]? = some (.cells (anC a) t (0, 0))) : (V.cell? ⟨g, 0, none⟩ = some (.int .i64 a.req) ∧ V.cell? ⟨g, 1, none⟩ = some (.int .i64 a.node) ∧ V.cell? ⟨g, 2, none⟩ = some (.int .i64 a.code) ∧ V.cell? ⟨g, 3, none⟩ = some (.bool a.res.found) ∧ V.cell? ⟨g, 4, none⟩ = some (.string a.res.val) ∧ V.cell? ⟨g, 5, none⟩ = some (.slice a.ea a.res.ents.length a.ec)) ∧ g < V.heap.size :=
  ⟨⟨cell_blk h 0, cell_blk h 1, cell_blk h 2, cell_blk h 3, cell_blk h 4, cell_blk h 5⟩, blk_lt h⟩
theorem an_range {w : World} {b o : Nat} {a : An} (h : w.rangeAt b o (anC a).toList) : w.cell? ⟨b, o, none⟩ = some (.int .i64 a.req) ∧ w.cell? ⟨b, o + 1, none⟩ = some (.int .i64 a.node) ∧ w.cell? ⟨b, o + 2, none⟩ = some (.int .i64 a.code) ∧ w.cell? ⟨b, o + 3, none⟩ = some (.bool a.res.found) ∧ w.cell? ⟨b, o + 4, none⟩ = some (.string a.res.val) ∧ w.cell? ⟨b, o + 5, none⟩ = some (.slice a.ea a.res.ents.length a.ec) :=
  ⟨h 0 _ rfl, h 1 _ rfl, h 2 _ rfl, h 3 _ rfl, h 4 _ rfl, h 5 _ rfl⟩
/-- What the answers of a step come to, told answer by answer. -/
theorem answL_pass {W : Wt} {s : Sn} {l : List An} {k : Nat} {a : An} (ha : l[k]? = some a) (h0 : answR (answF W s (l.take k)) s a = 0) (h : answL W s l = answL (answF W s (l.take k)) s (l.drop k)) : answL W s l = answL (answF W s (l.take (k + 1))) s (l.drop (k + 1)) ∧ answF W s (l.take (k + 1)) = answW (answF W s (l.take k)) s a := by
  have e1 : answF W s (l.take (k + 1)) = answW (answF W s (l.take k)) s a := by
    rw [List.take_add_one, ha]
    unfold answF
    rw [List.foldl_append]; rfl
  have e2 : l.drop k = a :: l.drop (k + 1) := by
    have hk := (List.getElem?_eq_some_iff.1 ha)
    obtain ⟨hk, rfl⟩ := hk
    exact List.drop_eq_getElem_cons hk
  refine ⟨?_, e1⟩
  rw [h, e2, e1]
  show (if _ then _ else _) = _
  rw [if_pos h0]
theorem answL_fail {W : Wt} {s : Sn} {l : List An} {k : Nat} {a : An} {r : Int} (ha : l[k]? = some a) (h0 : answR (answF W s (l.take k)) s a = r) (hr : r ≠ 0) (h : answL W s l = answL (answF W s (l.take k)) s (l.drop k)) : answL W s l = r := by
  have e2 : l.drop k = a :: l.drop (k + 1) := by
    obtain ⟨hk, rfl⟩ := List.getElem?_eq_some_iff.1 ha
    exact List.drop_eq_getElem_cons hk
  rw [h, e2]
  show (if _ then _ else _) = _
  rw [if_neg (by rw [h0]; exact hr), h0]
theorem WtOk.answF {W : Wt} (h : WtOk W) (s : Sn) (l : List An) : WtOk (Go.Proofs.YthdbkanbgfajbaaGreat.answF W s l) := by
  unfold Go.Proofs.YthdbkanbgfajbaaGreat.answF
  induction l generalizing W with
  | nil => exact h
  | cons a l ih => exact ih (W := answW W s a) ((h.r5 s a).note a)
/-- What the call tells and leaves. -/
def BrO (w : World) (S : Nat → Prop) (b : Nat) (W : Wt) (K : Nat) (s : Sn) (e : Ending) (w' : World) : Prop := e = .returned (.int .i64 (brk W s)) ∧ Fr S w w' ∧ (brk W s = 0 → WnTo w S b (brkW W s) (K + 2 + s.ans.length) w')
theorem brk_fail {W : Wt} {s : Sn} {r : Int} (h : answL (seeW W s) s s.ans = r) (hr : r ≠ 0) : brk W s = r := by
  unfold brk; rw [if_neg (by rw [h]; exact hr), h]
theorem brk_step {W : Wt} {s : Sn} (h : answL (seeW W s) s s.ans = 0) : brk W s = stpR (answF (seeW W s) s s.ans) s := by
  unfold brk; rw [if_pos h]
end Go.Proofs.YthdbkanbgfajbaaGreat
