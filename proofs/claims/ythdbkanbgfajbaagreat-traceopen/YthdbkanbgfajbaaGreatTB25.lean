
/- TcChk, TcRow, TcOpn. -/
import Derived.Test.YthdbkanbgfajbaaGreatTB22
import Derived.Test.YthdbkanbgfajbaaGreatTB23
import Derived.Test.YthdbkanbgfajbaaGreatTB24
import Derived.Test.YthdbkanbgfajbaaGreatTB7
/- Which rule a trace breaks first. -/
namespace Go.Proofs.YthdbkanbgfajbaaGreat
open Go.RowKit

theorem sn_range {w : World} {b o : Nat} {s : Sn} (h : w.rangeAt b o (snC s).toList) : w.cell? ⟨b, o, none⟩ = some (.int .i64 s.kind) ∧ w.cell? ⟨b, o + 1, none⟩ = some (.int .i64 s.node) ∧ w.cell? ⟨b, o + 2, none⟩ = some (.int .i64 s.n) ∧ w.cell? ⟨b, o + 3, none⟩ = some (.int .i64 s.m) ∧ w.cell? ⟨b, o + 4, none⟩ = some (.int .i64 s.creq) ∧ w.cell? ⟨b, o + 5, none⟩ = some (.int .i64 s.cnode) ∧ w.cell? ⟨b, o + 6, none⟩ = some (.int .i64 s.op.kind) ∧ w.cell? ⟨b, o + 7, none⟩ = some (.string s.op.key) ∧ w.cell? ⟨b, o + 8, none⟩ = some (.string s.op.val) ∧ w.cell? ⟨b, o + 9, none⟩ = some (.slice s.ba s.bn s.bc) ∧ w.cell? ⟨b, o + 10, none⟩ = some (.slice s.aa s.ans.length s.ac) ∧ w.cell? ⟨b, o + 11, none⟩ = some (.slice s.ha s.H.length s.hc) :=
  ⟨h 0 _ rfl, h 1 _ rfl, h 2 _ rfl, h 3 _ rfl, h 4 _ rfl, h 5 _ rfl, h 6 _ rfl, h 7 _ rfl, h 8 _ rfl, h 9 _ rfl, h 10 _ rfl, h 11 _ rfl⟩
theorem Wn.more {w : World} {S : Nat → Prop} {b : Nat} {W : Wt} {K K' : Nat} (h : Wn w S b W K) (hk : K ≤ K') : Wn w S b W K' := by
  obtain ⟨h1, m1, m2, oa, oc, ha, hc, P, h2⟩ := h
  exact ⟨h1, m1, m2, oa, oc, ha, hc, P, h2.more hk⟩
/-- A trace that is not long. -/
structure Small (l : List Sn) : Prop where
  wf : ∀ s ∈ l, SnWf s
  len : l.length ≤ 300
  each : ∀ s ∈ l, s.ans.length ≤ 2000 ∧ s.H.length ≤ 2000
theorem Small.ok {l : List Sn} (h : Small l) {s : Sn} (hs : s ∈ l) : SnOk s := (h.wf s hs).ok (by have := (h.each s hs).2; omega) (by have := (h.each s hs).1; omega)
theorem Small.take {l : List Sn} (h : Small l) (n : Nat) : Small (l.take n) := ⟨fun s hs => h.wf s (List.mem_of_mem_take hs), by have := h.len; rw [List.length_take]; omega, fun s hs => h.each s (List.mem_of_mem_take hs)⟩
set_option maxRecDepth 100000 in
set_option maxHeartbeats 4000000 in
theorem isLong_any {B : Nat} (a : Option Addr) (n c : Nat) (l : List Sn) (hn : n = l.length) (hs : Small l) (w : World) (h : Sns w B a c l) :
    Calls Tryz.prog 14 #[.slice a n c] w fun e w' => e = .returned (.bool false) ∧ Fr (fun _ => False) w w' := by
  have hle : n ≤ c := by rw [hn]; exact h.le
  have hmx := h.max
  have hl3 : n ≤ 300 := by rw [hn]; exact hs.len
  have HS : Hid (∀ W, Fr (fun _ => False) w W → Sns W B a c l) := fun W f => h.same f
  have HE : Hid (∀ s ∈ l, s.ans.length ≤ 2000 ∧ s.H.length ≤ 2000) := hs.each
  have HN : Hid (n = l.length) := hn
  clear h hn hs
  go_enter Tryz.func14, Tryz.ntmps14
  go_wp2
  go_loopw [7] (fun i wr => ∃ k : Nat, k ≤ n ∧ i = .int .i64 k ∧ Hid (Fr (fun _ => False) w wr)) (fun i _ => n - (intOf i).toNat)
  case atStart => exact ⟨0, by omega, rfl, Fr.refl _ _⟩
  case round =>
    obtain ⟨k, hk, rfl, HF⟩ := hrel
    by_cases hlt : k < n
    · obtain ⟨s, hsk⟩ : ∃ s, l[k]? = some s := ⟨_, List.getElem?_eq_getElem (by have := HN.out; omega)⟩
      obtain ⟨g, o, rfl, hgB, hgw, hcc⟩ := (HS.out _ HF.out).some (by have := HN.out; omega)
      obtain ⟨c0, c1, c2, c3, c4, c5, c6, c7, c8, c9, c10, c11⟩ := sn_range (hcc k s hsk)
      obtain ⟨e1, e2⟩ := HE.out s (List.mem_of_getElem? hsk)
      have hki : (k : Int) < (n : Int) := by omega
      clear hcc hsk
      have HF2 : Hid (Fr (fun _ => False) w (wr.alloc (.cells (snC s) 39))) := HF.out.seq' (Fr.box _ _)
      unfold snC at HF2
      generalize s.ans.length = na at *
      generalize s.H.length = nh at *
      have g1 : ¬ (4096 : Int) < (na : Int) := by omega
      have g2 : ¬ (4096 : Int) < (nh : Int) := by omega
      go_wp2
      go_roundw
      case rel => exact ⟨k + 1, by omega, by go_num, HF2⟩
      case measure => simp [intOf]; omega
    · obtain rfl : k = n := by omega
      have g1 : ¬ (4096 : Int) < (k : Int) := by omega
      go_wp2
      go_ret
      exact ⟨rfl, HF.out⟩
theorem WtOk.brk {W : Wt} (h : WtOk W) {s : Sn} (ho : SnOk s) : WtOk (brkW W s) := ⟨((h.see ho).answF s s.ans).1, ho.nH⟩
theorem wtOk0 : WtOk wt0 := ⟨(fun x c h => by cases h), by decide⟩
theorem wtOk_all {l : List Sn} (hs : Small l) : ∀ {k : Nat}, k ≤ l.length → WtOk (bkF (l.take k))
  | 0, _ => wtOk0
  | k + 1, hk => by
    obtain ⟨s, h⟩ : ∃ s, l[k]? = some s := ⟨_, List.getElem?_eq_getElem (by omega)⟩
    rw [bkF_step h]
    exact (wtOk_all hs (by omega)).brk (hs.ok (List.mem_of_getElem? h))
/-- A witness of a call's own. -/
def Wo (w0 w : World) (b : Nat) (W : Wt) (K : Nat) : Prop := ∃ S, Wn w S b W K ∧ ∀ k, S k → w0.heap.size ≤ k
theorem Wo.same {w0 w w' : World} {b : Nat} {W : Wt} {K : Nat} (h : Wo w0 w b W K) (f : Fr (fun _ => False) w w') : Wo w0 w' b W K := by
  obtain ⟨S, h1, h2⟩ := h
  exact ⟨S, h1.same f, h2⟩
theorem Wo.step {w0 w w' : World} {b : Nat} {W2 : Wt} {K' : Nat} {S : Nat → Prop} (h2 : ∀ k, S k → w0.heap.size ≤ k) (hz : w0.heap.size ≤ w.heap.size) (h : WnTo w S b W2 K' w') : Wo w0 w' b W2 K' := by
  obtain ⟨S', g1, g2, _, _⟩ := h
  refine ⟨S', g1, fun k hk => ?_⟩
  rcases g2 k hk with h | h
  · exact h2 k h
  · omega
theorem own_fr {w0 w w' : World} {S : Nat → Prop} (h2 : ∀ k, S k → w0.heap.size ≤ k) (f0 : Fr (fun _ => False) w0 w) (f : Fr S w w') : Fr (fun _ => False) w0 w' := f0.trans f (fun i hi e => by have := h2 i e; omega)
def ChkE (w : World) (l : List Sn) (e : Ending) (w' : World) : Prop := ∃ r i : Int, e = .returned (.tuple #[.int .i64 r, .int .i64 i, .int .i64 0]) ∧ ChkO l r i ∧ Fr (fun _ => False) w w'
set_option maxRecDepth 100000 in
set_option maxHeartbeats 4000000 in
theorem check_any {B : Nat} (a : Option Addr) (n c : Nat) (l : List Sn) (hn : n = l.length) (hs : Small l) (w : World) (hB : B ≤ w.heap.size) (h : Sns w B a c l) :
    Calls Tryz.prog 8 #[.slice a n c] w (ChkE w l) := by
  have hle : n ≤ c := by rw [hn]; exact h.le
  have hmx := h.max
  have hl3 : n ≤ 300 := by rw [hn]; exact hs.len
  have hlong := isLong_any a n c l hn hs w h
  have HS : Hid (∀ W, Fr (fun _ => False) w W → Sns W B a c l) := fun W f => h.same f
  have HZ : Hid (Small l) := hs
  have HB : Hid (B ≤ w.heap.size) := hB
  have HN : Hid (n = l.length) := hn
  clear h hn hs hB
  go_enter Tryz.func8, Tryz.ntmps8
  go_wp2_with (first | (go_at_call 14; refine hlong.mono ?_; rintro e w1 ⟨rfl, f1⟩) | (go_at_call 15; refine (newW_any _).mono ?_; rintro e w2 ⟨b, rfl, hw2, f2⟩))
  have HW0 : Hid (Wo w w2 b (bkF (l.take 0)) (0 * 2002)) := by
    obtain ⟨S, h1, h2⟩ := hw2
    exact ⟨S, h1, fun k hk => by have := h2 k hk; have := f1.size; omega⟩
  have HF0 : Hid (Fr (fun _ => False) w w2) := f1.seq' f2
  clear hw2 f1 f2 hlong
  go_loopw [14] (fun i wr => ∃ k : Nat, k ≤ n ∧ i = .int .i64 k ∧ Hid (Wo w wr b (bkF (l.take k)) (k * 2002)) ∧ Hid (Keeps l k) ∧ Hid (Fr (fun _ => False) w wr)) (fun i _ => n - (intOf i).toNat)
  case atStart => exact ⟨0, by omega, rfl, HW0, fun i s hi _ => by omega, HF0⟩
  case round =>
    obtain ⟨k, hk, rfl, HW, HK, HF⟩ := hrel
    clear HW0 HF0
    by_cases hlt : k < n
    · obtain ⟨s, hsk⟩ : ∃ s, l[k]? = some s := ⟨_, List.getElem?_eq_getElem (by have := HN.out; omega)⟩
      have hmem := List.mem_of_getElem? hsk
      have HSN : Hid (Sns wr B a c l) := HS.out _ HF.out
      obtain ⟨g, o, rfl, hgB, hgw, hcc⟩ := HSN.out.some (by have := HN.out; omega)
      obtain ⟨c0, c1, c2, c3, c4, c5, c6, c7, c8, c9, c10, c11⟩ := sn_range (hcc k s hsk)
      have hki : (k : Int) < (n : Int) := by omega
      have F2 : Fr (fun _ => False) wr (wr.alloc (.cells (snC s) 39)) := Fr.box _ _
      have hcall : Calls Tryz.prog 16 #[.pointer (some ⟨b, 0, none⟩), snV s] (wr.alloc (.cells (snC s) 39)) fun e w' => e = .returned (.int .i64 (brk (bkF (l.take k)) s)) ∧ Fr (fun _ => False) w w' ∧ (brk (bkF (l.take k)) s = 0 → Wo w w' b (bkF (l.take (k + 1))) ((k + 1) * 2002)) := by
        have HW2 := HW.out.same F2
        obtain ⟨S, h1, h2⟩ := HW2
        have F3 := HF.out.seq' F2
        have hz := F3.size
        refine (broken_any s (HZ.out.ok hmem) (wtOk_all HZ.out (by have := HN.out; omega)) _ (fun k hk => by have := h2 k hk; have := HB.out; omega) (by have := HB.out; omega) (by omega) ((HSN.out.ins s hmem).same F2) h1).mono ?_
        rintro e w' ⟨rfl, g1, g2⟩
        refine ⟨rfl, own_fr h2 F3 g1, fun h0 => ?_⟩
        rw [bkF_step hsk]
        obtain ⟨T, t1, t2⟩ := Wo.step h2 hz (g2 h0)
        exact ⟨T, t1.more (by have := (HZ.out.each s hmem).1; omega), t2⟩
      have HSK : Hid (l[k]? = some s) := hsk
      clear hcc hsk hmem F2 HW HSN
      unfold snC snV at hcall
      obtain ⟨r, hr⟩ : ∃ r, brk (bkF (l.take k)) s = r := ⟨_, rfl⟩
      rw [hr] at hcall
      go_wp2_with fail
      refine hcall.mono ?_
      rintro e w4 ⟨rfl, f4, hw4⟩
      clear hcall
      by_cases hr0 : r = 0
      · subst hr0
        have HW4 : Hid (Wo w w4 b (bkF (l.take (k + 1))) ((k + 1) * 2002)) := hw4 rfl
        have HK4 : Hid (Keeps l (k + 1)) := HK.out.succ HSK.out hr
        have HF4 : Hid (Fr (fun _ => False) w w4) := f4
        clear hw4 f4 hr
        go_wp2
        go_roundw
        case rel => exact ⟨k + 1, by omega, by go_num, HW4, HK4, HF4⟩
        case measure => simp [intOf]; omega
      · have hr1 : (r != 0) = true := by simpa using hr0
        have HFIN : Hid (ChkE w l (.returned (.tuple #[.int .i64 r, .int .i64 k, .int .i64 0])) w4) := ⟨r, k, rfl, .inr ⟨hr0, k, s, rfl, HSK.out, hr, HK.out⟩, f4⟩
        clear hw4 f4 hr hr0
        go_wp2
        go_ret3
        exact HFIN.out
    · obtain rfl : k = n := by omega
      have HFIN : Hid (ChkE w l (.returned (.tuple #[.int .i64 0, .int .i64 0, .int .i64 0])) wr) := ⟨0, 0, rfl, .inl ⟨rfl, rfl, by rw [← HN.out]; exact HK.out⟩, HF.out⟩
      clear HW HK HF
      go_wp2
      go_ret3
      exact HFIN.out
end Go.Proofs.YthdbkanbgfajbaaGreat

/- Rows of numbers that the program makes itself; two that are the same. -/
namespace Go.Proofs.YthdbkanbgfajbaaGreat
open Go.RowKit

/-- A row of numbers at block b, no earlier than B. -/
structure Ir (w : World) (B : Nat) (a : Option Addr) (cap : Nat) (ts : List Int) : Prop where
  le : ts.length ≤ cap
  max : cap ≤ 9223372036854775807
  at_ : ts = [] ∨ ∃ b, a = some ⟨b, 0, none⟩ ∧ B ≤ b ∧ b < w.heap.size ∧ ∀ (i : Nat) (x : Int), ts[i]? = some x → w.cell? ⟨b, i, none⟩ = some (.int .i64 x)
theorem Ir.of {w : World} {B : Nat} {v : Value} {ts : List Int} (h : w.ownsRow B 3 1 v ts.length (ts.map zI)) : ∃ a cap, v = .slice a ts.length cap ∧ Ir w B a cap ts := by
  obtain ⟨h1, ⟨rfl, h0⟩ | ⟨g, cap, cur, rfl, hg, hb, r1, r2, r3, r4⟩⟩ := h
  · have : ts = [] := List.eq_nil_of_length_eq_zero h0
    subst this
    exact ⟨none, 0, rfl, by simp, by omega, .inl rfl⟩
  · refine ⟨some ⟨g, 0, none⟩, cap, rfl, r1, by simp only [maxLen] at r2; omega, .inr ⟨g, rfl, hg, lt_of_block hb, fun i x hx => ?_⟩⟩
    obtain ⟨hi, hx'⟩ := List.getElem?_eq_some_iff.1 hx
    rw [cell_of_row w g i _ _ _ hb]
    have h2 : (cur.toList.take (ts.length * 1))[i]? = (ts.map zI)[i]? := by rw [r4]
    rw [List.getElem?_take_of_lt (by omega), List.getElem?_map, hx] at h2
    rw [← Array.getElem?_toList, h2]; rfl
theorem Ir.fr {S : Nat → Prop} {w w' : World} {B cap : Nat} {a : Option Addr} {ts : List Int} (h : Ir w B a cap ts) (f : Fr S w w') (hS : ∀ i, B ≤ i → i < w.heap.size → ¬ S i) : Ir w' B a cap ts := by
  refine ⟨h.le, h.max, ?_⟩
  rcases h.at_ with h0 | ⟨b, rfl, hb, hl, hc⟩
  · exact .inl h0
  · exact .inr ⟨b, rfl, hb, Nat.lt_of_lt_of_le hl f.size, fun i x hx => (f.cell (p := ⟨b, _, none⟩) hl (hS b hb hl)).trans (hc i x hx)⟩
theorem Ir.some {w : World} {B cap : Nat} {a : Option Addr} {ts : List Int} (h : Ir w B a cap ts) (hn : 0 < ts.length) : ∃ b, a = .some ⟨b, 0, none⟩ ∧ B ≤ b ∧ b < w.heap.size ∧ ∀ (i : Nat) (x : Int), ts[i]? = .some x → w.cell? ⟨b, i, none⟩ = .some (.int .i64 x) := by
  rcases h.at_ with h0 | h
  · rw [h0] at hn; simp at hn
  · exact h
theorem row_fr {S : Nat → Prop} {w w' : World} {B n : Nat} {e : TypeId} {v : Value} {xs : List Value} (h : w.ownsRow B e 1 v n xs) (f : Fr S w w') (hS : ∀ i, B ≤ i → i < w.heap.size → ¬ S i) : w'.ownsRow B e 1 v n xs := by
  obtain ⟨h1, h2 | ⟨g, cap, cur, hv, hg, hb, r⟩⟩ := h
  · exact ⟨h1, .inl h2⟩
  · exact ⟨h1, .inr ⟨g, cap, cur, hv, hg, (f.block g (lt_of_block hb) (hS g hg (lt_of_block hb))).trans hb, r⟩⟩
theorem infoIr : (Tryz.prog.info? 3).map (fun i => (i.zero, i.size, i.bytes)) = some (some (.int .i64 0), 1, 8) := by kernel_rfl
theorem one_cell_ir {w : World} {b : Nat} {t : TypeId} {c : Value} (h : w.heap[b]? = some (.cells #[c] t (0, 0))) : w.cell? ⟨b, 0, none⟩ = some c := by simp [World.cell?, h]
theorem app_one {w : World} {B : Nat} {v : Value} {l : List Int} (x : Int) (h : w.ownsRow B 3 1 v l.length (l.map zI)) (hB : B ≤ w.heap.size) (hl : l.length + 1 ≤ 17592186044416) :
    ∃ a' c' w', (Builtin.append_ #[40, 40] 40 #[v, .slice (some ⟨w.heap.size, 0, none⟩) 1 1]).run Tryz.prog (w.alloc (.cells #[.int .i64 x] 3)) = .ok (.slice a' (l.length + 1) c') w' ∧ w'.ownsRow B 3 1 (.slice a' (l.length + 1) c') (l ++ [x]).length ((l ++ [x]).map zI) ∧ Fr (fun k => B ≤ k) w w' := by
  obtain ⟨i, hi, hi1, hi2, hi3⟩ : ∃ i, Tryz.prog.info? 3 = some i ∧ i.zero = some (.int .i64 0) ∧ i.size = 1 ∧ i.bytes = 8 := by
    have := infoIr
    cases hh : Tryz.prog.info? 3 with
    | none => rw [hh] at this; cases this
    | some i =>
      rw [hh] at this
      simp only [Option.map_some, Option.some.injEq, Prod.mk.injEq] at this
      exact ⟨i, rfl, this.1, this.2.1, this.2.2⟩
  have fb := Fr.box w (.cells #[.int .i64 x] 3)
  have hc : (w.alloc (.cells #[.int .i64 x] 3)).cell? ⟨w.heap.size, 0, none⟩ = some (.int .i64 x) := one_cell_ir (heap_alloc_new w _)
  have h' := row_fr h fb (fun _ _ _ f => f)
  have hs1 := fb.size
  obtain ⟨v', w', hrun, hown, hgr, _⟩ := run_append_own (P := Tryz.prog) (w.alloc (.cells #[.int .i64 x] 3)) B 40 40 3 i (.int .i64 0) 1 8 Tryz.underlying40 hi hi1 hi2 hi3 rfl (by omega) v l.length (l.map zI) h' ⟨w.heap.size, 0, none⟩ 1 1 [.int .i64 x] rfl
    (fun j u hu => by
      cases j with
      | zero => simp at hu; subst hu; simp [Addr.add]
      | succ j => simp at hu) (fun u hu => by simp at hu; subst hu; rfl) (by unfold maxLen; omega) (by omega) (by omega)
  have e1 : l.map zI ++ [.int .i64 x] = (l ++ [x]).map zI := by simp [zI]
  have e2 : l.length + 1 = (l ++ [x]).length := by simp
  rw [e1, e2] at hown
  obtain ⟨a', c', rfl, _⟩ := Ir.of hown
  rw [← e2] at hown hrun ⊢
  refine ⟨a', c', w', hrun, hown, ?_⟩
  have fg : Fr (fun k => B ≤ k) (w.alloc (.cells #[.int .i64 x] 3)) w' := (Fr.refl _ _).grown hgr (fun k e _ => by
    rcases h.2 with ⟨rfl, _⟩ | ⟨g, cap, cur, rfl, hg, _⟩
    · simp [Value.ownBlock] at e
    · simp [Value.ownBlock] at e; omega)
  exact (fb.mono (T := fun k => B ≤ k) (fun i hi e => e.elim)).trans fg (fun i hi e => e)


theorem append_step {P : Program} {w w' : World} {ops : Array Oper} {rest : List Oper} {o : Oper} {ac : Act} {Q : Exit → Act → World → Prop} {v x v' : Value} (hgd : o.guard = none) (sl xo : Operand) (t : TypeId)
    (ho : o.op = .call { callee := .builtin .append, args := #[sl, xo], argTypes := #[t, t] }) (hse : ac.eval sl = v) (hxe : ac.eval xo = x) (hrun : (Builtin.append_ #[t, t] o.type #[v, x]).run P w = .ok v' w')
    (h : wpList P ops Q rest (ac.put o.dst v') w') : wpList P ops Q (o :: rest) ac w :=
  wpList_plain hgd fun _ hK => by
    unfold Oper.wp execOp
    simp only [ho, resolve, invoke, builtin, Sem.run_bind, Sem.run_pure, Result.andThen_ok, List.map_toArray, List.map_cons, List.map_nil, hse, hxe, hrun]
    exact hK _ _ h

set_option maxRecDepth 100000 in
set_option maxHeartbeats 1000000 in
theorem plain_ints (a1 a2 : Option Addr) (c1 c2 B1 B2 : Nat) (l : List Int) (w : World) (r1 : Ir w B1 a1 c1 l) (r2 : Ir w B2 a2 c2 l) :
    Calls Tryz.prog 12 #[.slice a1 l.length c1, .slice a2 l.length c2] w fun e w' => e = .returned (.bool true) ∧ Fr (fun _ => False) w w' := by
  have l1 := r1.le
  have m1 := r1.max
  have l2 := r2.le
  have m2 := r2.max
  have H1 : Hid (∀ W, Fr (fun _ => False) w W → Ir W B1 a1 c1 l) := fun W f => r1.fr f (fun _ _ _ f => f)
  have H2 : Hid (∀ W, Fr (fun _ => False) w W → Ir W B2 a2 c2 l) := fun W f => r2.fr f (fun _ _ _ f => f)
  clear r1 r2
  go_enter Tryz.func12, Tryz.ntmps12
  go_wp2
  go_loopw [13] (fun i wr => ∃ k : Nat, k ≤ l.length ∧ i = .int .i64 k ∧ Fr (fun _ => False) w wr) (fun i _ => l.length - (intOf i).toNat)
  case atStart => exact ⟨0, by omega, rfl, Fr.refl _ _⟩
  case round =>
    obtain ⟨k, hk, rfl, hf⟩ := hrel
    by_cases hlt : k < l.length
    · obtain ⟨b1, rfl, _, hb1, hc1⟩ := (H1.out _ hf).some (by omega)
      obtain ⟨b2, rfl, _, hb2, hc2⟩ := (H2.out _ hf).some (by omega)
      obtain ⟨s, hs⟩ : ∃ s, l[k]? = some s := ⟨_, List.getElem?_eq_getElem hlt⟩
      have k1 := hc1 k s hs
      have k2 := hc2 k s hs
      clear hs hc1 hc2
      have i1 : (k : Int) < (l.length : Int) := by omega
      go_wp2
      go_quiet (fail)
      go_wp2
      go_roundw
      case rel => exact ⟨k + 1, by omega, by go_num, hf.drewN _⟩
      case measure => simp [intOf]; omega
    · go_wp2
      go_ret
      exact ⟨rfl, hf⟩

end Go.Proofs.YthdbkanbgfajbaaGreat

/- Which calls are acked, and which are open. -/
namespace Go.Proofs.YthdbkanbgfajbaaGreat
open Go.RowKit

/-- A witness of a call's own, and a row of numbers beside it. -/
def Aw (w0 w : World) (b : Nat) (W : Wt) (K m1 m2 : Nat) (oa : Option Addr) (oc : Nat) (ha : Option Addr) (hc : Nat) (P : Int → Nat) (v : Value) (L : List Int) : Prop :=
  ∃ S : Nat → Prop, (∀ k, S k → k < w.heap.size) ∧ Wi w S b W K m1 m2 oa oc ha hc P ∧ W.h = [] ∧ (∀ k, S k → w0.heap.size ≤ k) ∧ Fr (fun _ => False) w0 w ∧ Has w 1 v L.length (L.map zI) ∧ ∀ g, v.ownBlock = some g → w0.heap.size ≤ g ∧ ¬ S g
def Ak (w0 w : World) (b : Nat) (W : Wt) (K : Nat) (v : Value) (L : List Int) : Prop := ∃ m1 m2 oa oc ha hc P, Aw w0 w b W K m1 m2 oa oc ha hc P v L
section
variable {w0 w : World} {b : Nat} {W : Wt} {K m1 m2 : Nat} {oa : Option Addr} {oc : Nat} {ha : Option Addr} {hc : Nat} {P : Int → Nat} {v : Value} {L : List Int}
theorem Aw.same {w' : World} (h : Aw w0 w b W K m1 m2 oa oc ha hc P v L) (f : Fr (fun _ => False) w w') : Aw w0 w' b W K m1 m2 oa oc ha hc P v L := by
  obtain ⟨S, h1, h2, h3, h4, h5, h6, h7⟩ := h
  exact ⟨S, fun k hk => Nat.lt_of_lt_of_le (h1 k hk) f.size, h2.same f, h3, h4, h5.seq' f, h6.fr f (fun _ _ e => e), h7⟩
theorem Ak.same {w' : World} (h : Ak w0 w b W K v L) (f : Fr (fun _ => False) w w') : Ak w0 w' b W K v L := by
  obtain ⟨m1, m2, oa, oc, ha, hc, P, h⟩ := h
  exact ⟨m1, m2, oa, oc, ha, hc, P, h.same f⟩
theorem Ak.frame (h : Ak w0 w b W K v L) : Fr (fun _ => False) w0 w := by
  obtain ⟨_, _, _, _, _, _, _, _, _, _, _, _, f, _⟩ := h
  exact f
theorem Ak.has (h : Ak w0 w b W K v L) : Has w 1 v L.length (L.map zI) ∧ ∀ g, v.ownBlock = some g → w0.heap.size ≤ g := by
  obtain ⟨_, _, _, _, _, _, _, _, _, _, _, _, f, h6, h7⟩ := h
  exact ⟨h6, fun g e => (h7 g e).1⟩
theorem Ak.parts (h : Ak w0 w b W K v L) : ∃ S, Wn w S b W K ∧ ∀ (W2 : Wt) (K2 : Nat) (w2 : World), W2.h = [] → WnTo w S b W2 K2 w2 → Ak w0 w2 b W2 K2 v L := by
  obtain ⟨m1, m2, oa, oc, ha, hc, P, S, h1, h2, h3, h4, h5, h6, h7⟩ := h
  refine ⟨S, ⟨h1, m1, m2, oa, oc, ha, hc, P, h2⟩, fun W2 K2 w2 hh ht => ?_⟩
  obtain ⟨S2, ⟨z, n1, n2, pa, pc, xa, xc, P2, g1⟩, g2, g3, g4⟩ := ht
  have hz := h5.size
  refine ⟨n1, n2, pa, pc, xa, xc, P2, S2, z, g1, hh, fun k hk => ?_, h5.trans g4 (fun i hi e => by have := h4 i e; omega), h6.fr g4 (fun k e => (h7 k e).2), fun g e => ⟨(h7 g e).1, fun hs => ?_⟩⟩
  · rcases g2 k hk with h | h
    · exact h4 k h
    · omega
  · rcases g2 g hs with h | h
    · exact (h7 g e).2 h
    · have := h6.lt e; omega
theorem Ak.box (h : Ak w0 w b W K v L) (C : Array Value) (t : TypeId) : ∃ S, Wn (w.alloc (.cells C t)) S b W K ∧ ∀ (W2 : Wt) (K2 : Nat) (w2 : World), W2.h = [] → WnTo (w.alloc (.cells C t)) S b W2 K2 w2 → Ak w0 w2 b W2 K2 v L ∧ w2.heap[w.heap.size]? = some (.cells C t (0, 0)) := by
  have F2 : Fr (fun _ => False) w (w.alloc (.cells C t)) := Fr.box _ _
  obtain ⟨m1, m2, oa, oc, ha, hc, P, S, h1, h2, h3, h4, h5, h6, h7⟩ := h
  refine ⟨S, ⟨fun k hk => Nat.lt_of_lt_of_le (h1 k hk) F2.size, m1, m2, oa, oc, ha, hc, P, h2.same F2⟩, fun W2 K2 w2 hh ht => ?_⟩
  obtain ⟨S2, ⟨z, n1, n2, pa, pc, xa, xc, P2, g1⟩, g2, g3, g4⟩ := ht
  have hz := (h5.seq' F2).size
  have hz2 := F2.size
  refine ⟨⟨n1, n2, pa, pc, xa, xc, P2, S2, z, g1, hh, fun k hk => ?_, (h5.seq' F2).trans g4 (fun i hi e => by have := h4 i e; omega), (h6.fr F2 (fun _ _ e => e)).fr g4 (fun k e => (h7 k e).2), fun g e => ⟨(h7 g e).1, fun hs => ?_⟩⟩, ?_⟩
  · rcases g2 k hk with h | h
    · exact h4 k h
    · omega
  · rcases g2 g hs with h | h
    · exact (h7 g e).2 h
    · have := h6.lt e; omega
  · exact (g4.block _ (blk_lt (heap_alloc_new w _)) (fun hs => by have := h1 _ hs; omega)).trans (heap_alloc_new w _)
/-- One number more. -/
theorem Aw.app {w8 : World} {v' : Value} {x : Int} (h : Aw w0 w b W K m1 m2 oa oc ha hc P v L) (ht : Has w8 1 v' (L.length + 1) (L.map zI ++ [.int .i64 x])) (f : Fr (fun k => v.ownBlock = some k ∧ 0 < 1) w w8) (hat : v'.ownBlock = v.ownBlock ∨ v'.ownBlock = some w.heap.size) : Aw w0 w8 b W K m1 m2 oa oc ha hc P v' (L ++ [x]) := by
  obtain ⟨S, h1, h2, h3, h4, h5, h6, h7⟩ := h
  have hz := h5.size
  refine ⟨S, fun k hk => Nat.lt_of_lt_of_le (h1 k hk) f.size, h2.off f (fun k hk e => (h7 k e.1).2 hk) (fun g o _ hne => absurd h3 hne), h3, h4, h5.trans f (fun i hi e => by have := (h7 i e.1).1; omega), ?_, fun g e => ?_⟩
  · rw [List.length_append, List.map_append]; exact ht
  · rcases hat with h | h
    · rw [h] at e; exact h7 g e
    · rw [h] at e; cases e; exact ⟨hz, fun hs => by have := h1 _ hs; omega⟩
theorem Ak.app {w8 : World} {v' : Value} {x : Int} (h : Ak w0 w b W K v L) (ht : Has w8 1 v' (L.length + 1) (L.map zI ++ [.int .i64 x])) (f : Fr (fun k => v.ownBlock = some k ∧ 0 < 1) w w8) (hat : v'.ownBlock = v.ownBlock ∨ v'.ownBlock = some w.heap.size) : Ak w0 w8 b W K v' (L ++ [x]) := by
  obtain ⟨m1, m2, oa, oc, ha, hc, P, h⟩ := h
  exact ⟨m1, m2, oa, oc, ha, hc, P, h.app ht f hat⟩
theorem Ak.more {K' : Nat} (h : Ak w0 w b W K v L) (hk : K ≤ K') : Ak w0 w b W K' v L := by
  obtain ⟨m1, m2, oa, oc, ha, hc, P, S, h1, h2, h3⟩ := h
  exact ⟨m1, m2, oa, oc, ha, hc, P, S, h1, h2.more hk, h3⟩
end
theorem Ir.ofHas {w : World} {a : Option Addr} {c n : Nat} {L : List Int} (hn : n = L.length) (h : Has w 1 (.slice a n c) n (L.map zI)) : Ir w 0 a c L := by
  subst hn
  rcases h.2 with ⟨e, h0⟩ | ⟨g, cap, e, hg, h1, h2, h3, h4⟩
  · simp only [Value.slice.injEq] at e
    obtain ⟨rfl, _, rfl⟩ := e
    exact ⟨by omega, by omega, .inl (List.eq_nil_of_length_eq_zero h0)⟩
  · simp only [Value.slice.injEq, true_and] at e
    obtain ⟨rfl, rfl⟩ := e
    refine ⟨h1, by unfold maxLen at h2; omega, .inr ⟨g, rfl, Nat.zero_le _, hg, fun i x hx => ?_⟩⟩
    have := h4 i (zI x) (by rw [List.getElem?_map, hx]; rfl)
    rwa [Nat.zero_add] at this
theorem wt0_ak {w w1 : World} {b : Nat} (h : ∃ S, Wn w1 S b wt0 0 ∧ ∀ k, S k → w.heap.size ≤ k) (f : Fr (fun _ => False) w w1) : Ak w w1 b wt0 0 (.slice none 0 0) [] := by
  obtain ⟨S, ⟨h1, m1, m2, oa, oc, ha, hc, P, h2⟩, h3⟩ := h
  exact ⟨m1, m2, oa, oc, ha, hc, P, S, h1, h2, rfl, h3, f, Has.nil _ _, fun g e => by cases e⟩
theorem noteW_h (W : Wt) (a : An) : (noteW W a).h = W.h := by
  unfold noteW
  cases W.calls a.req <;> rfl
theorem notesW_h (W : Wt) (l : List An) : (l.foldl noteW W).h = W.h := by
  induction l generalizing W with
  | nil => rfl
  | cons a l ih => rw [List.foldl_cons, ih, noteW_h]
theorem akF_h (l : List Sn) : (akF l).h = [] := by
  unfold akF
  suffices ∀ W : Wt, W.h = [] → (l.foldl seeW W).h = [] from this wt0 rfl
  induction l with
  | nil => exact fun W h => h
  | cons s l ih => exact fun W h => ih _ (by rw [seeW_h]; exact h)
theorem opF_h (l : List Sn) : (opF l).h = [] := by
  unfold opF
  suffices ∀ W : Wt, W.h = [] → (l.foldl opS W).h = [] from this wt0 rfl
  induction l with
  | nil => exact fun W h => h
  | cons s l ih => exact fun W h => ih _ (by unfold opS; rw [notesW_h, seeW_h]; exact h)
/-- A row of numbers that a call tells. -/
def RowE (w : World) (L : List Int) (e : Ending) (w' : World) : Prop := ∃ a c, e = .returned (.slice a L.length c) ∧ Ir w' 0 a c L ∧ Fr (fun _ => False) w w'
theorem take_an {l : List An} {k : Nat} {a : An} (h : l[k]? = some a) : l.take (k + 1) = l.take k ++ [a] := by rw [List.take_add_one, h]; rfl
theorem int_one (w : World) (x : Int) : From (w.alloc (.cells #[.int .i64 x] 3)) (some ⟨w.heap.size, 0, none⟩) [.int .i64 x] := .inr ⟨_, _, rfl, range_block (w := (w.alloc _)) (heap_alloc_new w _) (fun j v hv => by rw [Nat.zero_add]; simpa using hv)⟩
def akJ (W : Wt) (s : Sn) (j : Nat) : List Int := ((s.ans.take j).filter (ackB W)).map (·.req)
theorem akJ_yes {W : Wt} {s : Sn} {j : Nat} {a : An} (h : s.ans[j]? = some a) (hb : ackB W a = true) : akJ W s (j + 1) = akJ W s j ++ [a.req] := by
  unfold akJ; rw [take_an h, List.filter_append, List.map_append]; simp [hb]
theorem akJ_no {W : Wt} {s : Sn} {j : Nat} {a : An} (h : s.ans[j]? = some a) (hb : ackB W a = false) : akJ W s (j + 1) = akJ W s j := by
  unfold akJ; rw [take_an h, List.filter_append, List.map_append]; simp [hb]
theorem akJ_len (W : Wt) (s : Sn) (j : Nat) : (akJ W s j).length ≤ s.ans.length := by
  unfold akJ
  rw [List.length_map]
  refine Nat.le_trans (List.length_filter_le _ _) ?_
  rw [List.length_take]; omega
theorem ackedL_len {l : List Sn} (hs : Small l) : ∀ {k : Nat}, k ≤ l.length → (ackedL (l.take k)).length ≤ k * 2000
  | 0, _ => by simp [ackedL, akL]
  | k + 1, hk => by
    obtain ⟨s, h⟩ : ∃ s, l[k]? = some s := ⟨_, List.getElem?_eq_getElem (by omega)⟩
    rw [ackedL_step h, List.length_append]
    have h1 := ackedL_len hs (k := k) (by omega)
    have h2 := (hs.each s (List.mem_of_getElem? h)).1
    have h3 : (akS (akF (l.take k)) s).length ≤ s.ans.length := by
      unfold akS; rw [List.length_map]; exact List.length_filter_le _ _
    omega
set_option maxRecDepth 100000 in
set_option maxHeartbeats 8000000 in
theorem acked_any {B : Nat} (a : Option Addr) (n c : Nat) (l : List Sn) (hn : n = l.length) (hs : Small l) (w : World) (h : Sns w B a c l) :
    Calls Tryz.prog 10 #[.slice a n c] w (RowE w (ackedL l)) := by
  obtain ⟨iR, hiR, hR0, hR1, hR2⟩ := info_parts infoInt
  have hle : n ≤ c := by rw [hn]; exact h.le
  have hmx := h.max
  have hl3 : n ≤ 300 := by rw [hn]; exact hs.len
  have HS : Hid (∀ W, Fr (fun _ => False) w W → Sns W B a c l) := fun W f => h.same f
  have HZ : Hid (Small l) := hs
  have HN : Hid (n = l.length) := hn
  clear h hn hs
  go_enter Tryz.func10, Tryz.ntmps10
  go_wp2_with (go_at_call 15; refine (newW_any _).mono ?_; rintro e w2 ⟨b, rfl, hw2, f2⟩)
  have HA0 : Hid (Ak w w2 b (akF (l.take 0)) (0 * 2) (.slice none 0 0) (ackedL (l.take 0))) := wt0_ak hw2 f2
  clear hw2 f2
  go_loopw [4, 12] (fun v i wo => ∃ (k m : Nat) (a' : Option Addr) (c' : Nat), k ≤ n ∧ i = .int .i64 k ∧ v = .slice a' m c' ∧ Hid (m = (ackedL (l.take k)).length) ∧ Hid (Ak w wo b (akF (l.take k)) (k * 2) (.slice a' m c') (ackedL (l.take k)))) (fun _ i _ => n - (intOf i).toNat)
  case atStart => exact ⟨0, 0, none, 0, by omega, rfl, rfl, rfl, HA0⟩
  case round =>
    obtain ⟨wo, rfl⟩ : ∃ x, x = wr := ⟨wr, rfl⟩
    obtain ⟨k, m, a', c', hk, rfl, rfl, HM, HA⟩ := hrel
    clear HA0
    by_cases hlt : k < n
    · obtain ⟨s, hsk⟩ : ∃ s, l[k]? = some s := ⟨_, List.getElem?_eq_getElem (by have := HN.out; omega)⟩
      have hmem := List.mem_of_getElem? hsk
      have HSN : Hid (Sns wo B a c l) := HS.out _ HA.out.frame
      obtain ⟨g, o, rfl, hgB, hgw, hcc⟩ := HSN.out.some (by have := HN.out; omega)
      obtain ⟨c0, c1, c2, c3, c4, c5, c6, c7, c8, c9, c10, c11⟩ := sn_range (hcc k s hsk)
      have hki : (k : Int) < (n : Int) := by omega
      have hcall : Calls Tryz.prog 17 #[.pointer (some ⟨b, 0, none⟩), chV s] (wo.alloc (.cells (snC s) 39)) fun e w' => e = .returned (.tuple #[]) ∧ Ak w w' b (akF (l.take (k + 1))) ((k + 1) * 2) (.slice a' m c') (ackedL (l.take k)) ∧ w'.heap[wo.heap.size]? = some (.cells (snC s) 39 (0, 0)) := by
        obtain ⟨S, h1, h2⟩ := HA.out.box (snC s) 39
        refine (see_any s (HZ.out.wf s hmem).creq (HZ.out.wf s hmem).node _ (by omega) h1).mono ?_
        rintro e w' ⟨rfl, ht⟩
        obtain ⟨q1, q2⟩ := h2 _ _ _ (by rw [seeW_h]; exact akF_h _) ht
        refine ⟨rfl, ?_, q2⟩
        rw [akF_step hsk]
        exact q1.more (by omega)
      obtain ⟨aa, haa⟩ : ∃ x, x = s.aa := ⟨_, rfl⟩
      have HAA : Hid (aa = s.aa) := haa
      obtain ⟨na, hna⟩ : ∃ x, x = s.ans.length := ⟨_, rfl⟩
      have HNA : Hid (na = s.ans.length) := hna
      have hal : na ≤ s.ac := by rw [hna]; exact (HSN.out.ins s hmem).al
      have ham : s.ac ≤ 9223372036854775807 := (HSN.out.ins s hmem).am
      have hn2 : na ≤ 2000 := by rw [hna]; exact (HZ.out.each s hmem).1
      have HSK : Hid (l[k]? = some s) := hsk
      have hml : m ≤ 600000 := by
        have h1 := ackedL_len HZ.out (k := k) (by have := HN.out; omega)
        have := HM.out
        omega
      have HLS : Hid (ackedL (l.take (k + 1)) = ackedL (l.take k) ++ akJ (akF (l.take (k + 1))) s s.ans.length) := by
        show _ = _
        rw [ackedL_step hsk, akF_step hsk]
        unfold akS akJ
        rw [List.take_length]
      clear hcc hsk hmem HA HSN haa hna
      unfold snC chV at hcall
      go_wp2_with fail
      refine hcall.mono ?_
      rintro e w3 ⟨rfl, ha3, hb3⟩
      clear hcall c0 c1 c2 c3 c4 c5 c6 c7 c8 c9 c10 c11
      obtain ⟨⟨c0, c1, c2, c3, c4, c5, c6, c7, c8, c9, c10, c11⟩, hg⟩ := sn_cells HAA.out hb3
      rw [← HNA.out] at c10
      obtain ⟨W, hW⟩ : ∃ W, W = akF (l.take (k + 1)) := ⟨_, rfl⟩
      have HWW : Hid (W = akF (l.take (k + 1))) := hW
      obtain ⟨L, hL⟩ : ∃ L, L = ackedL (l.take k) := ⟨_, rfl⟩
      have HLL : Hid (L = ackedL (l.take k)) := hL
      rw [← hW, ← hL] at ha3
      rw [← hL] at HM
      have HA3 : Hid (Ak w w3 b W ((k + 1) * 2) (.slice a' m c') (L ++ akJ W s 0)) := by
        show Ak _ _ _ _ _ _ _
        rw [show akJ W s 0 = [] by rfl, List.append_nil]; exact ha3
      have HM3 : Hid (m = (L ++ akJ W s 0).length) := by
        show _ = _
        rw [show akJ W s 0 = [] by rfl, List.append_nil]; exact HM.out
      clear ha3 hb3 hW hL HM
      go_wp2
      clear c0 c1 c2 c3 c4 c5 c6 c7 c8 c9 c10 c11 hg
      go_loopw [4, 23] (fun v i wq => ∃ (j m : Nat) (a' : Option Addr) (c' : Nat), j ≤ na ∧ i = .int .i64 j ∧ v = .slice a' m c' ∧ m ≤ 600000 + j ∧ Hid (m = (L ++ akJ W s j).length) ∧ Hid (Ak w wq b W ((k + 1) * 2) (.slice a' m c') (L ++ akJ W s j))) (fun _ i _ => na - (intOf i).toNat)
      case atStart => exact ⟨0, m, a', c', by omega, rfl, rfl, by omega, HM3, HA3⟩
      case round =>
        obtain ⟨wq, rfl⟩ : ∃ x, x = wr := ⟨wr, rfl⟩
        obtain ⟨j, m, a', c', hj, rfl, rfl, hmj, HM, HA⟩ := hrel
        clear HA3 HM3
        by_cases hlj : j < na
        · obtain ⟨x, hx⟩ : ∃ x, s.ans[j]? = some x := ⟨_, List.getElem?_eq_getElem (by have := HNA.out; omega)⟩
          have hxm : x ∈ s.ans := List.mem_of_getElem? hx
          have hmem := List.mem_of_getElem? HSK.out
          have hin := (HS.out _ HA.out.frame).ins s hmem
          obtain ⟨ga, oa, ea, _, hga, hcc⟩ : ∃ g o, s.aa = some ⟨g, o, none⟩ ∧ g < B ∧ g < wq.heap.size ∧ ∀ i a, s.ans[i]? = some a → wq.rangeAt g (o + i * 6) (anC a).toList := by
            rcases hin.at_ with h0 | h
            · rw [h0] at hx; cases hx
            · exact h
          obtain ⟨q0, q1, q2, q3, q4, q5⟩ := an_range (hcc j x hx)
          rw [← HAA.out] at ea
          subst ea
          have hji : (j : Int) < (na : Int) := by omega
          have hak : Calls Tryz.prog 19 #[.pointer (some ⟨b, 0, none⟩), anV x] (wq.alloc (.cells (anC x) 49)) fun e w' => e = .returned (.bool (ackB W x)) ∧ Ak w w' b W ((k + 1) * 2) (.slice a' m c') (L ++ akJ W s j) ∧ w'.heap[wq.heap.size]? = some (.cells (anC x) 49 (0, 0)) := by
            have F2 : Fr (fun _ => False) wq (wq.alloc (.cells (anC x) 49)) := Fr.box _ _
            obtain ⟨S, h1, _⟩ := (HA.out.same F2).parts
            refine (acks_any ((HZ.out.wf s hmem).ans x hxm).1 _ h1).mono ?_
            rintro e w' ⟨rfl, f⟩
            exact ⟨rfl, (HA.out.same F2).same f, (f.block _ (blk_lt (heap_alloc_new wq _)) (fun e => e)).trans (heap_alloc_new wq _)⟩
          have HXS : Hid (s.ans[j]? = some x) := hx
          clear hx hxm hmem hin hcc HA
          unfold anV anC at hak
          cases hab : ackB W x with
          | false =>
            rw [hab] at hak
            have HJ : Hid (akJ W s (j + 1) = akJ W s j) := akJ_no HXS.out hab
            clear hab
            go_wp2_with fail
            refine hak.mono ?_
            rintro e w4 ⟨rfl, ha4, _⟩
            have HA4 : Hid (Ak w w4 b W ((k + 1) * 2) (.slice a' m c') (L ++ akJ W s (j + 1))) := by
              show Ak _ _ _ _ _ _ _
              rw [HJ.out]; exact ha4
            have HM4 : Hid (m = (L ++ akJ W s (j + 1)).length) := by show _ = _; rw [HJ.out]; exact HM.out
            clear ha4 HM HJ hak q0 q1 q2 q3 q4 q5
            go_wp2
            go_roundw
            case rel => exact ⟨j + 1, m, a', c', by omega, rfl, by go_num, by omega, HM4, HA4⟩
            case measure => simp [intOf]; omega
          | true =>
            rw [hab] at hak
            have HJ : Hid (akJ W s (j + 1) = akJ W s j ++ [x.req]) := akJ_yes HXS.out hab
            clear hab
            go_wp2_with fail
            refine hak.mono ?_
            rintro e w4 ⟨rfl, ha4, hb4⟩
            clear q0 q1 q2 q3 q4 q5 hak
            obtain ⟨⟨q0, q1, q2, q3, q4, q5⟩, hq⟩ := an_cells (a := x) hb4
            have F5 : Fr (fun _ => False) w4 (w4.alloc (.cells #[.int .i64 x.req] 3)) := Fr.box _ _
            have ha5 := ha4.same F5
            have HRW : Hid (Has (w4.alloc (.cells #[.int .i64 x.req] 3)) 1 (.slice a' m c') m ((L ++ akJ W s j).map zI)) := by
              have := ha5.has.1
              rw [← HM.out] at this
              exact this
            have HNE : Hid (From (w4.alloc (.cells #[.int .i64 x.req] 3)) (some ⟨w4.heap.size, 0, none⟩) [.int .i64 x.req]) := int_one w4 x.req
            have HA5 : Hid (Ak w (w4.alloc (.cells #[.int .i64 x.req] 3)) b W ((k + 1) * 2) (.slice a' m c') (L ++ akJ W s j)) := ha5
            clear ha4 hb4 ha5 F5
            go_wp2_with (at_builtin; refine wpList_append_has _ rfl (.tmp 30) (.tmp 33) 40 40 3 3 rfl iR _ 1 8 Tryz.underlying40 Tryz.underlying40 hiR hR0 hR1 hR2 rfl (by omega) (.slice a' m c') m ((L ++ akJ W s j).map zI) rfl HRW.out (some ⟨w4.heap.size, 0, none⟩) 1 1 [.int .i64 x.req] rfl rfl HNE.out (by simp [Value.oneCell']) (by unfold maxLen; omega) (by omega) ?_; intro a4 c4 w8 ht4 f34 hat4)
            have HA6 : Hid (Ak w w8 b W ((k + 1) * 2) (.slice a4 (m + 1) c4) (L ++ akJ W s (j + 1))) := by
              show Ak _ _ _ _ _ _ _
              rw [HJ.out, ← List.append_assoc]
              exact HA5.out.app (by rw [← HM.out]; exact ht4) f34 hat4
            have HM6 : Hid (m + 1 = (L ++ akJ W s (j + 1)).length) := by show _ = _; rw [HJ.out, ← List.append_assoc, List.length_append, ← HM.out]; rfl
            clear ht4 f34 hat4 HA5 HRW HNE HJ HM q0 q1 q2 q3 q4 q5 hq
            go_wp2
            go_roundw
            case rel => exact ⟨j + 1, m + 1, a4, c4, by omega, rfl, by go_num, by omega, HM6, HA6⟩
            case measure => simp [intOf]; omega
        · obtain rfl : j = na := by omega
          have hAL : L ++ akJ W s j = ackedL (l.take (k + 1)) := by rw [HLL.out, HWW.out, HNA.out, HLS.out]
          have HM6 : Hid (m = (ackedL (l.take (k + 1))).length) := by show _ = _; rw [← hAL]; exact HM.out
          have HA6 : Hid (Ak w wq b (akF (l.take (k + 1))) ((k + 1) * 2) (.slice a' m c') (ackedL (l.take (k + 1)))) := by
            show Ak _ _ _ _ _ _ _
            rw [← hAL, ← HWW.out]; exact HA.out
          clear hAL HM HA
          go_wp2
          go_roundw
          case rel => exact ⟨k + 1, m, a', c', by omega, rfl, by go_num, HM6, HA6⟩
          case measure => simp [intOf]; omega
    · obtain rfl : k = n := by omega
      have HFIN : Hid (RowE w (ackedL l) (.returned (.slice a' m c')) wo) := by
        have e : l.take k = l := by rw [HN.out, List.take_length]
        have h1 := HM.out
        have h2 := HA.out
        rw [e] at h1 h2
        subst h1
        exact ⟨a', c', rfl, Ir.ofHas rfl h2.has.1, h2.frame⟩
      clear HM HA
      go_wp2
      go_ret
      exact HFIN.out
end Go.Proofs.YthdbkanbgfajbaaGreat
