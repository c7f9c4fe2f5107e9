
/- TcCall1, TcCall2, TcSee, FdPlc, TcRul. -/
import Derived.Test.YthdbkanbgfajbaaGreatTB7
import Derived.Test.YthdbkanbgfajbaaGreatTB5
/- A call is taken in. -/
namespace Go.Proofs.YthdbkanbgfajbaaGreat
open Go.RowKit

section
variable {S : Nat → Prop} {b : Nat} {W : Wt} {K m1 m2 : Nat} {oa : Option Addr} {oc : Nat} {ha : Option Addr} {hc : Nat} {P : Int → Nat}
/-- The new call's number stands behind the others. -/
theorem Wi.snoc {w : World} (h : Wi w S b W K m1 m2 oa oc ha hc P) {w8 : World} {q : Int} {oa' : Option Addr} {oc' : Nat} (ht : Has w8 1 (.slice oa' (W.order.length + 1) oc') (W.order.length + 1) (W.order.map zI ++ [.int .i64 q])) (f : Fr (fun k => (Value.slice oa W.order.length oc).ownBlock = some k ∧ 0 < 1) w w8) (hat : (Value.slice oa' (W.order.length + 1) oc').ownBlock = (Value.slice oa W.order.length oc).ownBlock ∨ (Value.slice oa' (W.order.length + 1) oc').ownBlock = some w.heap.size) :
    Wi (w8.setCell ⟨b, 1, none⟩ (.slice oa' (W.order.length + 1) oc')) (fun k => S k ∨ (Value.slice oa' (W.order.length + 1) oc').ownBlock = some k) b { W with order := W.order ++ [q] } (K + 1) m1 m2 oa' oc' ha hc P ∧ Fr S w (w8.setCell ⟨b, 1, none⟩ (.slice oa' (W.order.length + 1) oc')) ∧ w8.cell? ⟨b, 1, none⟩ = some (.slice oa W.order.length oc) ∧ w8.frozen? ⟨b, 1, none⟩ = false := by
  have hbw := blk_lt h.blk
  have hb8 : w8.heap[b]? = some (.cells #[.map (some m1), .slice oa W.order.length oc, .map (some m2), .slice ha W.h.length hc] 60 (0, 0)) := (f.block b hbw (fun e => (h.oo b e.1).2.1 rfl)).trans h.blk
  have hbs := set_blkT hb8 1 (.slice oa' (W.order.length + 1) oc')
  obtain ⟨c0, c1, c2, c3, cz⟩ := four_cells hb8
  have fs : Fr (fun k => k = b) w8 (w8.setCell ⟨b, 1, none⟩ (.slice oa' (W.order.length + 1) oc')) := (Fr.refl (fun k => k = b) w8).setCell (p := ⟨b, 1, none⟩) (fun _ => rfl) _
  obtain ⟨n1, hn1, k1⟩ := h.calls
  obtain ⟨n2, hn2, k2⟩ := h.floors
  obtain ⟨bm1, bm2⟩ := h.bm
  have hob : ∀ g, (Value.slice oa' (W.order.length + 1) oc').ownBlock = some g → (S g ∧ (Value.slice oa W.order.length oc).ownBlock = some g) ∨ g = w.heap.size := fun g e => by
    rcases hat with e2 | e2
    · rw [e2] at e; exact .inl ⟨(h.oo g e).1, e⟩
    · rw [e2] at e; cases e; exact .inr rfl
  have F : Fr S w (w8.setCell ⟨b, 1, none⟩ (.slice oa' (W.order.length + 1) oc')) := (f.widen (T := S) (fun k e => (h.oo k e.1).1)).trans fs (fun k _ e => by rw [e]; exact h.ob)
  have hlen : (W.order ++ [q]).length = W.order.length + 1 := by simp
  refine ⟨?_, F, c1, cz 1⟩
  have hne : ∀ x c, W.calls x = some c → ∀ g, (Value.slice oa W.order.length oc).ownBlock = some g → g ≠ P x := fun x c hx g e => (h.oo g e).2.2.2.2 x c hx
  refine ⟨?_, ⟨n1, by omega, (k1.fr f (fun e => (h.oo m1 e.1).2.2.1 rfl)).fr fs (fun e => bm1 e.symm)⟩, ⟨n2, by omega, (k2.fr f (fun e => (h.oo m2 e.1).2.2.2.1 rfl)).fr fs (fun e => bm2 e.symm)⟩, fun x c hx => ?_, h.inj, ?_, ?_, by show (W.order ++ [q]).length ≤ K + 1; rw [hlen]; have := h.few; omega, .inl h.ob, .inl h.om1, .inl h.om2, fun x c hx => .inl (h.oP x c hx), fun g e => ?_, fun g o e1 e2 e3 => ?_, h.n12⟩
  · show _ = some (Obj.cells #[.map (some m1), .slice oa' (W.order ++ [q]).length oc', .map (some m2), .slice ha W.h.length hc] 60 (0, 0))
    rw [hlen, hbs]; rfl
  · have hp := h.made x c hx
    have p1 := f.block (P x) (blk_lt hp) (fun e => hne x c hx (P x) e.1 rfl)
    have hp8 := p1.trans hp
    exact (fs.block (P x) (blk_lt hp8) (fun e => (h.apart hx).1 e)).trans hp8
  · show Has _ 1 (.slice oa' (W.order ++ [q]).length oc') (W.order ++ [q]).length ((W.order ++ [q]).map zI)
    rw [hlen, List.map_append]
    exact ht.fr fs (fun k e ek => by
      subst ek
      rcases hob k e with e2 | e2
      · exact (h.oo k e2.2).2.1 rfl
      · omega)
  · refine ⟨h.hist.le, h.hist.max, ?_⟩
    rcases h.hist.at_ with h0 | ⟨g, off, rfl, hb, hcc⟩
    · exact .inl h0
    · by_cases he : W.h = []
      · exact .inl he
      · exact .inr ⟨g, off, rfl, Nat.lt_of_lt_of_le hb F.size, fun i r hr => range_fr (hcc i r hr) F (fun e => h.oh g off rfl he e)⟩
  · have e' : (Value.slice oa' (W.order.length + 1) oc').ownBlock = some g := by
      cases oa' with
      | none => cases e
      | some x => exact e
    rcases hob g e' with e2 | e2
    · obtain ⟨z1, z2, z3, z4, z5⟩ := h.oo g e2.2
      exact ⟨.inl z1, z2, z3, z4, z5⟩
    · refine ⟨.inr e', by omega, by have := k1.lt; omega, by have := k2.lt; omega, fun x c hx => ?_⟩
      have := blk_lt (h.made x c hx)
      omega
  · rcases e3 with e3 | e3
    · exact h.oh g o e1 e2 e3
    rcases hob g e3 with e3 | e3
    · exact h.oh g o e1 e2 e3.1
    · rcases h.hist.at_ with h0 | ⟨g', off, h0, hb', _⟩
      · exact e2 h0
      · rw [h0] at e1
        cases e1
        omega
end
end Go.Proofs.YthdbkanbgfajbaaGreat

/- A call is taken in. -/
namespace Go.Proofs.YthdbkanbgfajbaaGreat
open Go.RowKit

section
variable {S : Nat → Prop} {b : Nat} {W : Wt} {K m1 m2 : Nat} {oa : Option Addr} {oc : Nat} {ha : Option Addr} {hc : Nat} {P : Int → Nat}
theorem infoInt : (Tryz.prog.info? 3).map (fun i => (i.zero, i.size, i.bytes)) = some (some (.int .i64 0), 1, 8) := by kernel_rfl
set_option maxRecDepth 100000 in
set_option maxHeartbeats 4000000 in
theorem call_old (q n kind : Int) (key val : ByteArray) (hx : wfK q) (w : World) (hS : ∀ k, S k → k < w.heap.size) (h : Wi w S b W K m1 m2 oa oc ha hc P) {c : Md} (hq : W.calls q = some c) : Calls Tryz.prog 25 #[.pointer (some ⟨b, 0, none⟩), .agg #[.int .i64 q, .int .i64 n, .int .i64 kind, .string key, .string val]] w fun e w' => e = .returned (.tuple #[]) ∧ WnTo w S b W (K + 1) w' := by
  have f0 := Fr.box w (.cells #[.int .i64 q, .int .i64 n, .int .i64 kind, .string key, .string val] 32)
  have h1 := h.same f0
  obtain ⟨c0, c1, c2, c3, cz⟩ := four_cells h1.blk
  have hd := h1.same (Fr.drew (Fr.refl _ _))
  have e1 := hd.look hx
  have hb : b < w.heap.size := blk_lt h.blk
  rw [hq] at e1
  dsimp only [Option.map, Option.getD, Option.isSome] at e1
  have HFIN : Hid (WnTo w S b W (K + 1) (w.alloc (.cells #[.int .i64 q, .int .i64 n, .int .i64 kind, .string key, .string val] 32)).drew) := ⟨S, ⟨fun k hk => by have := hS k hk; have := (f0.drew).size; omega, m1, m2, oa, oc, ha, hc, P, hd.more (by omega)⟩, fun k hk => .inl hk, fun _ hk => hk, f0.drew.widen (fun _ f => f.elim)⟩
  clear hq h h1 f0 hd hS
  go_enter Tryz.func25, Tryz.ntmps25
  go_wp2
  go_region_law (fail)
  all_goals go_wp2
  all_goals (first | go_end0 | ((try simp only [Exit.inBlock, Exit.then]); refine bodyPost_ret (results_none rfl _ _ _) rfl ?_))
  all_goals exact ⟨rfl, HFIN.out⟩
set_option maxRecDepth 100000 in
set_option maxHeartbeats 8000000 in
theorem call_new (q n kind : Int) (key val : ByteArray) (hx : wfK q) (w : World) (hS : ∀ k, S k → k < w.heap.size) (hK : K ≤ 1000000) (h : Wi w S b W K m1 m2 oa oc ha hc P) (hq : W.calls q = none) : Calls Tryz.prog 25 #[.pointer (some ⟨b, 0, none⟩), .agg #[.int .i64 q, .int .i64 n, .int .i64 kind, .string key, .string val]] w fun e w' => e = .returned (.tuple #[]) ∧ WnTo w S b { W with calls := cupd W.calls q ⟨⟨kind, key, val⟩, n, false, false⟩, order := W.order ++ [q] } (K + 2) w' := by
  obtain ⟨i0, hi, hz0, hz1, hz2⟩ := info_parts infoInt
  have f0 := Fr.box w (.cells #[.int .i64 q, .int .i64 n, .int .i64 kind, .string key, .string val] 32)
  have h1 := h.same f0
  obtain ⟨c0, c1, c2, c3, cz⟩ := four_cells h1.blk
  have e1 := (h1.same (Fr.drew (Fr.refl _ _))).look hx
  have hb : b < w.heap.size := blk_lt h.blk
  rw [hq] at e1
  dsimp only [Option.map, Option.getD, Option.isSome] at e1
  have HQ : Hid (W.calls q = none) := hq
  have HD : Hid (∀ V, Fr (fun _ => False) w V → Wi V S b W K m1 m2 oa oc ha hc P) := fun V f => h.same f
  have HF : Hid (Fr (fun _ => False) w (w.alloc (.cells #[.int .i64 q, .int .i64 n, .int .i64 kind, .string key, .string val] 32))) := f0
  have HBX : Hid ((w.alloc (.cells #[.int .i64 q, .int .i64 n, .int .i64 kind, .string key, .string val] 32)).heap[w.heap.size]? = some (.cells #[.int .i64 q, .int .i64 n, .int .i64 kind, .string key, .string val] 32 (0, 0))) := heap_alloc_new w _
  clear hq h h1 f0
  go_enter Tryz.func25, Tryz.ntmps25
  go_upto_region 1 with fail
  go_cut [4, 5] (fun p r wc => p = .pointer none ∧ r = .bool false ∧ wc = (w.alloc (.cells #[.int .i64 q, .int .i64 n, .int .i64 kind, .string key, .string val] 32)).drew)
  case first =>
    go_region_law (fail)
    all_goals (go_wp2_with fail; go_meet; exact ⟨rfl, rfl, rfl⟩)
  case rest =>
  obtain ⟨rfl, rfl, rfl⟩ := hcut
  have HFV : Hid (Fr (fun _ => False) w (w.alloc (.cells #[.int .i64 q, .int .i64 n, .int .i64 kind, .string key, .string val] 32)).drew) := HF.out.drew
  have HBV : Hid ((w.alloc (.cells #[.int .i64 q, .int .i64 n, .int .i64 kind, .string key, .string val] 32)).drew.heap[w.heap.size]? = some (.cells #[.int .i64 q, .int .i64 n, .int .i64 kind, .string key, .string val] 32 (0, 0))) := HBX.out
  clear c0 c1 c2 c3 cz e1 HF HBX
  generalize (w.alloc (.cells #[.int .i64 q, .int .i64 n, .int .i64 kind, .string key, .string val] 32)).drew = V at *
  have HDV : Hid (Wi V S b W K m1 m2 oa oc ha hc P) := HD.out V HFV.out
  obtain ⟨c0, c1, c2, c3, cz⟩ := four_cells HDV.out.blk
  obtain ⟨d0, d1, d2, d3, d4⟩ := five_cells HBV.out
  have hgV := blk_lt HBV.out
  have hbV : b < V.heap.size := blk_lt HDV.out.blk
  obtain ⟨w4, hst, HM4⟩ := HDV.out.store HQ.out hx (by omega) n kind key val
  go_upto_region 3 with fail
  go_cut [28] (fun p wc => p = .pointer (some ⟨V.heap.size, 0, none⟩) ∧ w4 = wc)
  case first =>
    go_region_law (fail)
    all_goals (go_wp2_with fail; go_meet; exact ⟨rfl, rfl⟩)
  case rest =>
  obtain ⟨rfl, rfl⟩ := hcut
  obtain ⟨hW4, hF4, hZ4⟩ := HM4.out
  have hm1 : m1 < w.heap.size := by obtain ⟨_, _, hm⟩ := (HD.out w (Fr.refl _ _)).calls; exact hm.lt
  have hbx4 : w4.heap[w.heap.size]? = some (.cells #[.int .i64 q, .int .i64 n, .int .i64 kind, .string key, .string val] 32 (0, 0)) := (hF4.block _ hgV (fun e => by omega)).trans HBV.out
  have F5 : Fr (fun _ => False) w4 (w4.alloc (.cells #[.int .i64 q] 3)).drew := (Fr.box w4 _).drew
  have hW5 := hW4.same F5
  have hrow := hW5.row
  have HRW : Hid (Has (w4.alloc (.cells #[.int .i64 q] 3)).drew 1 (.slice oa W.order.length oc) W.order.length (W.order.map zI)) := hrow
  have hnews : From (w4.alloc (.cells #[.int .i64 q] 3)).drew (some ⟨w4.heap.size, 0, none⟩) [.int .i64 q] := .inr ⟨_, _, rfl, range_block (w := (w4.alloc _).drew) (heap_alloc_new w4 _) (fun j v hv => by rw [Nat.zero_add]; simpa using hv)⟩
  have HNE : Hid (From (w4.alloc (.cells #[.int .i64 q] 3)).drew (some ⟨w4.heap.size, 0, none⟩) [.int .i64 q]) := hnews
  have HSN : Hid (∀ (w8 : World) (oa' : Option Addr) (oc' : Nat), Has w8 1 (.slice oa' (W.order.length + 1) oc') (W.order.length + 1) (W.order.map zI ++ [.int .i64 q]) → Fr (fun k => (Value.slice oa W.order.length oc).ownBlock = some k ∧ 0 < 1) (w4.alloc (.cells #[.int .i64 q] 3)).drew w8 → ((Value.slice oa' (W.order.length + 1) oc').ownBlock = (Value.slice oa W.order.length oc).ownBlock ∨ (Value.slice oa' (W.order.length + 1) oc').ownBlock = some (w4.alloc (.cells #[.int .i64 q] 3)).drew.heap.size) → WnTo w S b { W with calls := cupd W.calls q ⟨⟨kind, key, val⟩, n, false, false⟩, order := W.order ++ [q] } (K + 2) (w8.setCell ⟨b, 1, none⟩ (.slice oa' (W.order.length + 1) oc')) ∧ w8.cell? ⟨b, 1, none⟩ = some (.slice oa W.order.length oc) ∧ w8.frozen? ⟨b, 1, none⟩ = false) := fun w8 oa' oc' t1 t2 t3 => by
    obtain ⟨z1, z2, z3, z4⟩ := hW5.snoc (q := q) t1 t2 t3
    refine ⟨⟨_, ⟨fun k hk => ?_, m1, m2, oa', oc', ha, hc, _, z1⟩, fun k hk => ?_, fun k hk => .inl (.inl hk), ?_⟩, z3, z4⟩
    · have s1 := t2.size
      have s2 := F5.size
      have s0 := HFV.out.size
      have sw := hF4.size
      have s3 : (w8.setCell ⟨b, 1, none⟩ (.slice oa' (W.order.length + 1) oc')).heap.size = w8.heap.size := by simp [World.setCell]
      rcases hk with (hk | hk) | hk
      · have := hS k hk; omega
      · omega
      · have := t1.lt hk; omega
    · have s0 := HFV.out.size
      have s2 := F5.size
      have sw := hF4.size
      rcases hk with (hk | hk) | hk
      · exact .inl hk
      · exact .inr (by omega)
      · rcases t3 with e | e
        · rw [e] at hk; exact .inl (((HDV.out).oo k hk).1)
        · rw [e] at hk; cases hk; exact .inr (by omega)
    · have g1 : Fr S w w4 := (HFV.out.widen (fun _ f => f.elim)).trans hF4 (fun k hk e => by rw [e]; exact (HDV.out).om1)
      have g2 := g1.trans F5 (fun _ _ f => f.elim)
      exact g2.trans z2 (fun k hk e => by
        rcases e with e | e
        · exact e
        · have := HFV.out.size; omega)
  obtain ⟨y0, y1, y2, y3, yz⟩ := four_cells hW5.blk
  obtain ⟨t0, t1, t2, t3, t4⟩ := five_cells ((F5.block _ (blk_lt hbx4) (fun f => f)).trans hbx4)
  obtain ⟨x0, x1, x2, x3, xz⟩ := four_cells hW4.blk
  obtain ⟨u0, u1, u2, u3, u4⟩ := five_cells hbx4
  have hb4 : b < w4.heap.size := blk_lt hW4.blk
  have hg4 : w.heap.size < w4.heap.size := blk_lt hbx4
  have hfw : W.order.length ≤ 1000000 := by have := HDV.out.few; omega
  clear c0 c1 c2 c3 cz d0 d1 d2 d3 d4 hst HM4 hF4 hW4 hW5 F5 hnews hrow hbx4 HBV HDV HD HQ hZ4 hm1
  go_upto_region 4 with fail
  go_region_law
    ((refine step_append_has _ (by rfl) _ _ 40 40 3 3 (by rfl) i0 _ 1 8 Tryz.underlying40 Tryz.underlying40 hi hz0 hz1 hz2 rfl (by omega) (.slice oa W.order.length oc) W.order.length (W.order.map zI) (by rfl) HRW.out
            (some ⟨w4.heap.size, 0, none⟩) 1 1 [.int .i64 q] (by rfl) (by rfl) HNE.out (by simp [Value.oneCell']) (by unfold maxLen; omega) (by omega) ?_; intro a' c' w5 hown hfr hat; obtain ⟨HWN, k1, k2⟩ := HSN.out w5 a' c' hown hfr hat))
  all_goals
    have HWN2 : Hid (WnTo w S b { W with calls := cupd W.calls q ⟨⟨kind, key, val⟩, n, false, false⟩, order := W.order ++ [q] } (K + 2) (w5.setCell ⟨b, 1, none⟩ (.slice a' (W.order.length + 1) c'))) := HWN
    clear HWN hown hfr hat
    go_wp2
    go_end0
    exact ⟨rfl, HWN2.out⟩
end
end Go.Proofs.YthdbkanbgfajbaaGreat

/- What a step's choice says. -/
namespace Go.Proofs.YthdbkanbgfajbaaGreat
open Go.RowKit

def chV (s : Sn) : Value := .agg #[.int .i64 s.kind, .int .i64 s.node, .int .i64 s.n, .int .i64 s.m, .int .i64 s.creq, .int .i64 s.cnode, .int .i64 s.op.kind, .string s.op.key, .string s.op.val, .slice s.ba s.bn s.bc]
def chC (s : Sn) : Array Value := #[.int .i64 s.kind, .int .i64 s.node, .int .i64 s.n, .int .i64 s.m, .int .i64 s.creq, .int .i64 s.cnode, .int .i64 s.op.kind, .string s.op.key, .string s.op.val, .slice s.ba s.bn s.bc]
theorem WnTo.more {w : World} {S : Nat → Prop} {b : Nat} {W : Wt} {K K' : Nat} {w' : World} (h : WnTo w S b W K w') (hk : K ≤ K') : WnTo w S b W K' w' := by
  obtain ⟨S', ⟨h1, m1, m2, oa, oc, ha, hc, P, h2⟩, h3, h4, h5⟩ := h
  exact ⟨S', ⟨h1, m1, m2, oa, oc, ha, hc, P, h2.more hk⟩, h3, h4, h5⟩
theorem call_any {S : Nat → Prop} {b : Nat} {W : Wt} {K : Nat} (q n kind : Int) (key val : ByteArray) (hx : wfK q) (w : World) (hK : K ≤ 1000000) (h : Wn w S b W K) : Calls Tryz.prog 25 #[.pointer (some ⟨b, 0, none⟩), .agg #[.int .i64 q, .int .i64 n, .int .i64 kind, .string key, .string val]] w fun e w' => e = .returned (.tuple #[]) ∧ WnTo w S b (callW W q n ⟨kind, key, val⟩) (K + 2) w' := by
  obtain ⟨hS, m1, m2, oa, oc, ha, hc, P, hw⟩ := h
  cases hq : W.calls q with
  | some c =>
    rw [callW_some hq]
    exact (call_old q n kind key val hx w hS hw hq).mono fun e w' ⟨h1, h2⟩ => ⟨h1, h2.more (by omega)⟩
  | none =>
    rw [callW_none hq]
    exact call_new q n kind key val hx w hS hK hw hq
section
variable {S : Nat → Prop} {b : Nat} {W : Wt} {K m1 m2 : Nat} {oa : Option Addr} {oc : Nat} {ha : Option Addr} {hc : Nat} {P : Int → Nat}
theorem fupd_map (f : Int → Option Int) (x : Int) (v : Option Int) : (fun y => (fupd f x v y).map (fun v => Value.int .i64 v)) = vupd (fun y => (f y).map (fun v => Value.int .i64 v)) x (v.map (fun v => Value.int .i64 v)) := by
  funext y
  unfold fupd vupd
  by_cases e : y = x
  · rw [if_pos e, if_pos e]
  · rw [if_neg e, if_neg e]
/-- A floor is set anew, or let go. -/
theorem Wi.floored {w w4 : World} (h : Wi w S b W K m1 m2 oa oc ha hc P) {x : Int} {v : Option Int} {n : Nat} (hn : n ≤ K + 1) (k4 : Mp w4 m2 n (vupd (fun y => (W.floor y).map (fun v => Value.int .i64 v)) x (v.map (fun v => Value.int .i64 v)))) (f4 : Fr (fun k => k = m2) w w4) :
    Wi w4 S b { W with floor := fupd W.floor x v } (K + 1) m1 m2 oa oc ha hc P := by
  obtain ⟨n1, hn1, k1⟩ := h.calls
  obtain ⟨bm1, bm2⟩ := h.bm
  refine ⟨(f4.block b (blk_lt h.blk) (fun e => bm2 e)).trans h.blk, ⟨n1, by omega, k1.fr f4 (fun e => h.n12 e)⟩, ⟨n, hn, by rw [← fupd_map] at k4; exact k4⟩, fun x c hx => (f4.block _ (blk_lt (h.made x c hx)) (fun e => (h.apart hx).2.2 e)).trans (h.made x c hx), h.inj, h.row.fr f4 (fun k e ek => (h.oo k e).2.2.2.1 ek), ?_, by have := h.few; show W.order.length ≤ K + 1; omega, h.ob, h.om1, h.om2, h.oP, h.oo, h.oh, h.n12⟩
  refine ⟨h.hist.le, h.hist.max, ?_⟩
  rcases h.hist.at_ with h0 | ⟨g, off, rfl, hb, hcc⟩
  · exact .inl h0
  · by_cases he : W.h = []
    · exact .inl he
    · exact .inr ⟨g, off, rfl, Nat.lt_of_lt_of_le hb f4.size, fun i r hr => range_fr (hcc i r hr) f4 (fun e => h.oh g off rfl he (by rw [e]; exact h.om2))⟩
end
theorem ten_cells {W : World} {b : Nat} {t : TypeId} {c0 c1 c2 c3 c4 c5 c6 c7 c8 c9 : Value} (h : W.heap[b]? = some (.cells #[c0, c1, c2, c3, c4, c5, c6, c7, c8, c9] t (0, 0))) : W.cell? ⟨b, 0, none⟩ = some c0 ∧ W.cell? ⟨b, 1, none⟩ = some c1 ∧ W.cell? ⟨b, 4, none⟩ = some c4 ∧ W.cell? ⟨b, 5, none⟩ = some c5 ∧ W.cell? ⟨b, 6, none⟩ = some c6 ∧ W.cell? ⟨b, 7, none⟩ = some c7 ∧ W.cell? ⟨b, 8, none⟩ = some c8 := by
  refine ⟨?_, ?_, ?_, ?_, ?_, ?_, ?_⟩ <;> simp [World.cell?, h]
set_option maxRecDepth 100000 in
set_option maxHeartbeats 4000000 in
theorem see_any {S : Nat → Prop} {b : Nat} {W : Wt} {K : Nat} (s : Sn) (hx : wfK s.creq) (hy : wfK s.node) (w : World) (hK : K ≤ 1000000) (h : Wn w S b W K) : Calls Tryz.prog 17 #[.pointer (some ⟨b, 0, none⟩), chV s] w fun e w' => e = .returned (.tuple #[]) ∧ WnTo w S b (seeW W s) (K + 2) w' := by
  have f0 := Fr.box w (.cells (chC s) 35)
  obtain ⟨hS, m1, m2, oa, oc, ha, hc, P, hw⟩ := h
  have h1 := hw.same f0
  have hS1 : ∀ k, S k → k < (w.alloc (.cells (chC s) 35)).heap.size := fun k hk => by have := hS k hk; have := f0.size; omega
  have HC : Hid (∀ (T : World), WnTo (w.alloc (.cells (chC s) 35)) S b (seeW W s) (K + 2) T → WnTo w S b (seeW W s) (K + 2) T) := fun T ⟨S', t1, t2, t3, t4⟩ => ⟨S', t1, fun k hk => (t2 k hk).imp id (fun hk => by have := f0.size; omega), t3, (f0.widen (fun _ f => f.elim)).trans t4 (fun _ _ e => e)⟩
  have hb : b < w.heap.size := blk_lt hw.blk
  by_cases hk1 : s.kind = 1
  · have hcl := call_any s.creq s.cnode s.op.kind s.op.key s.op.val hx (w.alloc (.cells (chC s) 35)) hK ⟨hS1, m1, m2, oa, oc, ha, hc, P, h1⟩
    rw [show callW W s.creq s.cnode ⟨s.op.kind, s.op.key, s.op.val⟩ = seeW W s by unfold seeW; rw [if_pos hk1]] at hcl
    generalize seeW W s = W2 at *
    obtain ⟨kind, node, n, m, creq, cnode, ⟨ok, okey, oval⟩, ba, bn, bc, ans, aa, ac, H, ha', hc'⟩ := s
    unfold chV
    unfold chC at *
    dsimp only at *
    subst hk1
    clear h1 hw f0
    go_enter Tryz.func17, Tryz.ntmps17
    go_wp2_with fail
    refine hcl.mono ?_
    rintro e w3 ⟨rfl, hT⟩
    have HT := HC.out w3 hT
    have HT2 : Hid (WnTo w S b W2 (K + 2) w3) := HT
    clear hT HT hcl HC
    dsimp only
    go_wp2
    go_end0
    exact ⟨rfl, HT2.out⟩
  · by_cases hk8 : s.kind = 8 ∨ s.kind = 9
    · have hse : seeW W s = { W with floor := fupd W.floor s.node none } := by unfold seeW; rw [if_neg hk1, if_pos hk8]
      have hd := h1.same (Fr.drew (Fr.refl _ _))
      obtain ⟨n2, hn2, k2⟩ := hd.floors
      obtain ⟨w4, hst, k4, f4⟩ := k2.drop Tryz.underlying58 hy 0
      have hst' : ∀ ty, (Builtin.delete_ #[58, 3] ty #[.map (some m2), .int .i64 s.node]).run Tryz.prog (w.alloc (.cells (chC s) 35)).drew = .ok (.tuple #[]) w4 := fun ty => hst
      have HW4 : Hid (WnTo w S b (seeW W s) (K + 2) w4) := by
        have q1 : Wi w4 S b { W with floor := fupd W.floor s.node none } (K + 1) m1 m2 oa oc ha hc P := hd.floored (n := if ((W.floor s.node).map (fun v => Value.int .i64 v)).isSome = true then n2 - 1 else n2) (by split <;> omega) k4 f4
        rw [hse]
        exact ⟨S, ⟨fun k hk => by have := hS1 k hk; have := f4.size; have e : (w.alloc (.cells (chC s) 35)).drew.heap.size = (w.alloc (.cells (chC s) 35)).heap.size := rfl; omega, m1, m2, oa, oc, ha, hc, P, q1.more (by omega)⟩, fun k hk => .inl hk, fun _ hk => hk, ((f0.drew).widen (fun _ f => f.elim)).trans f4 (fun k _ e => by rw [e]; exact hw.om2)⟩
      obtain ⟨c0, c1, c2, c3, cz⟩ := four_cells h1.blk
      generalize seeW W s = W2 at *
      obtain ⟨kind, node, n, m, creq, cnode, ⟨ok, okey, oval⟩, ba, bn, bc, ans, aa, ac, H, ha', hc'⟩ := s
      unfold chV
      unfold chC at *
      dsimp only at *
      clear h1 hw f0 hd k2 k4 f4 hst HC hse hS1 hS hn2
      have e1 : (kind == 1) = false := by simpa using hk1
      rcases hk8 with rfl | rfl
      · clear hk1 e1
        go_enter Tryz.func17, Tryz.ntmps17
        go_wp2
        go_region_law (fail)
        all_goals go_wp2
        all_goals go_end0
        all_goals exact ⟨rfl, HW4.out⟩
      · clear hk1 e1
        go_enter Tryz.func17, Tryz.ntmps17
        go_wp2
        go_region_law (fail)
        all_goals go_wp2
        all_goals go_end0
        all_goals exact ⟨rfl, HW4.out⟩
    · have hse : seeW W s = W := by unfold seeW; rw [if_neg hk1, if_neg hk8]
      have HW4 : Hid (WnTo w S b (seeW W s) (K + 2) (w.alloc (.cells (chC s) 35))) := by
        rw [hse]
        exact ⟨S, ⟨hS1, m1, m2, oa, oc, ha, hc, P, h1.more (by omega)⟩, fun k hk => .inl hk, fun _ hk => hk, f0.widen (fun _ f => f.elim)⟩
      generalize seeW W s = W2 at *
      obtain ⟨kind, node, n, m, creq, cnode, ⟨ok, okey, oval⟩, ba, bn, bc, ans, aa, ac, H, ha', hc'⟩ := s
      unfold chV
      unfold chC at *
      dsimp only at *
      have e1 : (kind == 1) = false := by simpa using hk1
      have e8 : (kind == 8) = false := by simpa using fun e => hk8 (.inl e)
      have e9 : (kind == 9) = false := by simpa using fun e => hk8 (.inr e)
      clear h1 hw f0 HC hse hS1 hS hk1 hk8
      go_enter Tryz.func17, Tryz.ntmps17
      go_wp2
      go_end0
      exact ⟨rfl, HW4.out⟩
end Go.Proofs.YthdbkanbgfajbaaGreat

/- Place, on both sides. -/
namespace Go.Proofs.YthdbkanbgfajbaaGreat
open Go.RowKit Go.Shelf

/-- The first record of a request. -/
def plc (hs : List Rec) (q : Int) : Option Nat := hs.findIdx? (fun r => r.req == q)
theorem plc_at {hs : List Rec} {q : Int} {k : Nat} {r : Rec} (hr : hs[k]? = some r) (he : r.req = q) (hn : ∀ (j : Nat) (x : Rec), j < k → hs[j]? = some x → x.req ≠ q) : plc hs q = some k := by
  unfold plc
  rw [List.findIdx?_eq_some_iff_getElem]
  obtain ⟨hk, hr'⟩ := List.getElem?_eq_some_iff.1 hr
  refine ⟨hk, by rw [hr']; simpa using he, fun j hj => ?_⟩
  have := hn j _ hj (List.getElem?_eq_getElem (by omega))
  simpa using this
theorem plc_none {hs : List Rec} {q : Int} (hn : ∀ (j : Nat) (x : Rec), hs[j]? = some x → x.req ≠ q) : plc hs q = none := by
  unfold plc
  rw [List.findIdx?_eq_none_iff]
  intro x hx
  obtain ⟨j, hj, rfl⟩ := List.getElem_of_mem hx
  simpa using hn j _ (List.getElem?_eq_getElem hj)
set_option maxRecDepth 100000 in
set_option maxHeartbeats 2000000 in
theorem place1_any (r : Rec) (q : Int) (B : Nat) (w : World) (hB : w.cell? ⟨B, 0, none⟩ = some (.int .i64 q)) (hz : B < w.heap.size) : Calls Tryz.prog 50 #[(.agg #[.int .i64 r.lsn, .int .i64 r.ep, .int .i64 r.kind, .int .i64 r.page, .int .i64 r.other, .int .i64 r.req, .string r.key, .string r.val]), .pointer (some ⟨B, 0, none⟩)] w fun e w' => e = .returned (.bool (r.req == q)) ∧ Fr (fun _ => False) w w' := by
  obtain ⟨lsn, ep, kind, page, other, req, key, val⟩ := r
  dsimp only
  have f0 := Fr.box w (.cells #[.int .i64 lsn, .int .i64 ep, .int .i64 kind, .int .i64 page, .int .i64 other, .int .i64 req, .string key, .string val] 44)
  go_enter Tryz.func50, Tryz.ntmps50
  go_wp2
  go_ret
  exact ⟨rfl, f0⟩
def plI (o : Option Nat) : Int := match o with | none => -1 | some k => k
set_option maxRecDepth 100000 in
set_option maxHeartbeats 4000000 in
theorem idxf_any (a : Option Addr) (n c : Nat) (hs : List Rec) (hn : n = hs.length) (q : Int) (B : Nat) (w : World) (hB : w.heap[B]? = some (.cells #[.int .i64 q] 3 (0, 0))) (r : Recs w a c hs) :
    Calls Tryz.prog 28 #[.slice a n c, .func (.func 50) #[] #[.pointer (some ⟨B, 0, none⟩)]] w fun e w' => e = .returned (.int .i64 (plI (plc hs q))) ∧ Fr (fun _ => False) w w' := by
  have hl1 : n ≤ c := by rw [hn]; exact r.le
  have hm2 := r.max
  have HS1 : Hid (∀ W, Fr (fun _ => False) w W → Recs W a c hs) := fun W f => r.same f
  have HB : Hid (∀ W, Fr (fun _ => False) w W → W.heap[B]? = some (.cells #[.int .i64 q] 3 (0, 0))) := fun W f => f.blk hB (fun f => f)
  have HN : Hid (n = hs.length) := hn
  clear r hn hB
  go_enter Tryz.func28, Tryz.ntmps28
  go_wp2
  go_loopw [8] (fun i wr => ∃ k : Nat, k ≤ n ∧ i = .int .i64 k ∧ Hid (∀ (j : Nat) (x : Rec), j < k → hs[j]? = some x → x.req ≠ q) ∧ Fr (fun _ => False) w wr) (fun i _ => n - (intOf i).toNat)
  case atStart => exact ⟨0, by omega, rfl, (fun j x h => by omega), Fr.refl _ _⟩
  case round =>
    obtain ⟨k, hk, rfl, HE, F⟩ := hrel
    by_cases hlt : k < n
    · obtain ⟨r, hr⟩ : ∃ r, hs[k]? = some r := ⟨_, List.getElem?_eq_getElem (by have := HN.out; omega)⟩
      obtain ⟨b1, o1, rfl, hb1, hcc1⟩ := (HS1.out _ F).some (by have := HN.out; omega)
      obtain ⟨q0, q1, q2, q3, q4, q5, q6, q7⟩ := rec_range (hcc1 k r hr)
      have hki : (k : Int) < (n : Int) := by omega
      have hp := place1_any r q B wr (one_cells (HB.out _ F)).1 (lt_of_block (HB.out _ F))
      have HY : Hid (r.req = q → plc hs q = some k) := fun h => plc_at hr h HE.out
      have HNO : Hid (r.req ≠ q → ∀ (j : Nat) (x : Rec), j < k + 1 → hs[j]? = some x → x.req ≠ q) := fun h j x hj hx => by
        rcases Nat.lt_or_ge j k with h1 | h1
        · exact HE.out j x h1 hx
        · have : j = k := by omega
          subst this
          rw [hr] at hx; cases hx; exact h
      obtain ⟨lsn, ep, kind, page, other, req, key, val⟩ := r
      dsimp only at q0 q1 q2 q3 q4 q5 q6 q7 hp HY HNO
      clear hr hcc1
      by_cases hq : req = q
      · have HP : Hid (plI (plc hs q) = (k : Int)) := by show _ = _; rw [HY.out hq]; rfl
        have hq' : (req == q) = true := by simpa using hq
        rw [hq'] at hp
        clear HY HNO hq hq'
        go_wp2_with fail
        refine hp.mono ?_
        rintro e w3 ⟨rfl, f3⟩
        clear hp
        go_wp2
        go_ret
        exact ⟨ret_int HP.out.symm, F.seq' f3⟩
      · have hq' : (req == q) = false := by simpa using hq
        have HN2 := HNO.out hq
        have HN3 : Hid (∀ (j : Nat) (x : Rec), j < k + 1 → hs[j]? = some x → x.req ≠ q) := HN2
        rw [hq'] at hp
        clear HY HNO hq hq' HN2
        go_wp2_with fail
        refine hp.mono ?_
        rintro e w3 ⟨rfl, f3⟩
        clear hp
        go_wp2
        go_roundw
        case rel => exact ⟨k + 1, by omega, by go_num, HN3, F.seq' f3⟩
        case measure => simp [intOf]; omega
    · obtain rfl : k = n := by omega
      have HP : Hid (plI (plc hs q) = -1) := by
        show _ = _
        rw [plc_none (fun j x hx => HE.out j x (by have := (List.getElem?_eq_some_iff.1 hx).1; have := HN.out; omega) hx)]; rfl
      go_wp2
      go_ret
      exact ⟨ret_int HP.out.symm, F⟩
def plV (o : Option Nat) : Value := .tuple #[.int .i64 ((o.getD 0 : Nat) : Int), .bool o.isSome]
set_option maxRecDepth 100000 in
set_option maxHeartbeats 4000000 in
theorem place_any (a : Option Addr) (n c : Nat) (ls : List Rec) (hn : n = ls.length) (hf : n ≤ 100000) (q : Int) (w : World) (h : Recs w a c ls) :
    Calls Tryz.prog 38 #[.slice a n c, .int .i64 q] w fun e w' => e = .returned (plV (plc (hist ls) q)) ∧ Fr (fun _ => False) w w' := by
  have f0 := Fr.box w (.cells #[.int .i64 q] 3)
  have hB := heap_alloc_new w (.cells #[.int .i64 q] 3)
  have hh := history_any a n c ls hn (by omega) _ (h.same f0)
  generalize hist ls = hs at *
  obtain ⟨m, hm⟩ : ∃ m, m = hs.length := ⟨_, rfl⟩
  have HM : Hid (m = hs.length) := hm
  have hh2 : Calls Tryz.prog 11 #[.slice a n c] (w.alloc (.cells #[.int .i64 q] 3)) fun e w' => ∃ a' c', e = .returned (.slice a' m c') ∧ Recs w' a' c' hs ∧ Fr (fun _ => False) (w.alloc (.cells #[.int .i64 q] 3)) w' := hh.mono fun e w' ⟨a', c', he, hr, _, f⟩ => ⟨a', c', by rw [he, hm], hr, f⟩
  clear hh h hn hf hm
  go_enter Tryz.func38, Tryz.ntmps38
  go_wp2_with fail
  refine hh2.mono ?_
  rintro e w1 ⟨a', c', rfl, hr, f1⟩
  clear hh2
  have hi := idxf_any a' m c' hs HM.out q w.heap.size w1 (f1.blk hB (fun f => f)) hr
  clear hr hB
  cases hp : plc hs q with
  | none =>
    rw [hp] at hi
    go_wp2_with fail
    refine hi.mono ?_
    rintro e w2 ⟨rfl, f2⟩
    clear hi
    show _
    simp only [plI]
    go_wp2
    go_ret2
    exact ⟨by rw [hp]; rfl, (f0.seq' f1).seq' f2⟩
  | some k =>
    rw [hp] at hi
    simp only [plI] at hi
    have hk0 : ¬ (k : Int) < 0 := by omega
    go_wp2_with fail
    refine hi.mono ?_
    rintro e w2 ⟨rfl, f2⟩
    clear hi
    go_wp2
    go_ret2
    exact ⟨by rw [hp]; rfl, (f0.seq' f1).seq' f2⟩
end Go.Proofs.YthdbkanbgfajbaaGreat

/- The rules of an answer: 2, 3 and 6. -/
namespace Go.Proofs.YthdbkanbgfajbaaGreat
open Go.RowKit

def snV (s : Sn) : Value := .agg #[.int .i64 s.kind, .int .i64 s.node, .int .i64 s.n, .int .i64 s.m, .int .i64 s.creq, .int .i64 s.cnode, .int .i64 s.op.kind, .string s.op.key, .string s.op.val, .slice s.ba s.bn s.bc, .slice s.aa s.ans.length s.ac, .slice s.ha s.H.length s.hc]
def snC (s : Sn) : Array Value := #[.int .i64 s.kind, .int .i64 s.node, .int .i64 s.n, .int .i64 s.m, .int .i64 s.creq, .int .i64 s.cnode, .int .i64 s.op.kind, .string s.op.key, .string s.op.val, .slice s.ba s.bn s.bc, .slice s.aa s.ans.length s.ac, .slice s.ha s.H.length s.hc]
def bareB (r : Rs) : Bool := emp r.val && r.ents.isEmpty
def r3B (W : Wt) (s : Sn) (a : An) : Bool := !ackB W a || (plc (hist s.H) a.req).isSome
def r6B (W : Wt) (a : An) : Bool := if a.code = 1 then bareB a.res || !(match W.calls a.req with | none => false | some c => wrB c.op) else bareB a.res && !a.res.found
section
variable {S : Nat → Prop} {b : Nat} {W : Wt} {K m1 m2 : Nat} {oa : Option Addr} {oc : Nat} {ha : Option Addr} {hc : Nat} {P : Int → Nat}
set_option maxRecDepth 100000 in
set_option maxHeartbeats 4000000 in
theorem r2_wi (s : Sn) (a : An) (hx : wfK a.req) (w : World) (h : Wi w S b W K m1 m2 oa oc ha hc P) : Calls Tryz.prog 30 #[.pointer (some ⟨b, 0, none⟩), snV s, anV a] w fun e w' => e = .returned (.bool (r2B W a)) ∧ Fr (fun _ => False) w w' := by
  have f0 := (Fr.box w (.cells (snC s) 39)).seq' (Fr.box (w.alloc (.cells (snC s) 39)) (.cells (anC a) 49))
  have h1 := h.same f0
  obtain ⟨c0, c1, c2, c3, cz⟩ := four_cells h1.blk
  have e1 := (h1.same (Fr.drew (Fr.refl _ _))).look hx
  have HM : Hid (∀ c, W.calls a.req = some c → ((w.alloc (.cells (snC s) 39)).alloc (.cells (anC a) 49)).heap[P a.req]? = some (.cells (mdC c) 62 (0, 0))) := h1.made a.req
  have HF : Hid (Fr (fun _ => False) w ((w.alloc (.cells (snC s) 39)).alloc (.cells (anC a) 49))) := f0
  have hb : b < w.heap.size := blk_lt h.blk
  have HPL : Hid (∀ c, W.calls a.req = some c → P a.req < w.heap.size) := fun c hc => blk_lt (h.made _ _ hc)
  clear h h1 f0
  obtain ⟨req, node, code, ⟨found, val, ents⟩, ea, ec⟩ := a
  unfold anV snV r2B
  unfold anC snC at *
  dsimp only at *
  cases hq : W.calls req with
  | none =>
    rw [hq] at e1
    dsimp only [Option.map, Option.getD, Option.isSome] at e1
    clear hq HM HPL
    go_enter Tryz.func30, Tryz.ntmps30
    go_upto_region 1 with fail
    go_cut [7, 8] (fun p r wc => p = .pointer none ∧ r = .bool false ∧ wc = ((w.alloc (.cells #[.int .i64 s.kind, .int .i64 s.node, .int .i64 s.n, .int .i64 s.m, .int .i64 s.creq, .int .i64 s.cnode, .int .i64 s.op.kind, .string s.op.key, .string s.op.val, .slice s.ba s.bn s.bc, .slice s.aa s.ans.length s.ac, .slice s.ha s.H.length s.hc] 39)).alloc (.cells #[.int .i64 req, .int .i64 node, .int .i64 code, .bool found, .string val, .slice ea ents.length ec] 49)).drew)
    case first =>
      go_region_law (fail)
      all_goals (go_wp2_with fail; go_meet; exact ⟨rfl, rfl, rfl⟩)
    case rest =>
    obtain ⟨rfl, rfl, rfl⟩ := hcut
    go_wp2
    go_quiet (fail)
    go_wp2
    go_ret
    exact ⟨rfl, (HF.out.drew).drewN _⟩
  | some c =>
    rw [hq] at e1
    dsimp only [Option.map, Option.getD, Option.isSome] at e1
    have hm := HM.out c hq
    have hp := HPL.out c hq
    obtain ⟨⟨ok, okey, oval⟩, cn, ca, cr⟩ := c
    unfold mdC at hm
    dsimp only at hm
    obtain ⟨d0, d1, d2, d3, d4, d5, dz⟩ := six_cells hm
    clear hq HM hm HPL
    dsimp only
    go_enter Tryz.func30, Tryz.ntmps30
    go_upto_region 1 with fail
    go_cut [7, 8] (fun p r wc => p = .pointer (some ⟨P req, 0, none⟩) ∧ r = .bool true ∧ wc = ((w.alloc (.cells #[.int .i64 s.kind, .int .i64 s.node, .int .i64 s.n, .int .i64 s.m, .int .i64 s.creq, .int .i64 s.cnode, .int .i64 s.op.kind, .string s.op.key, .string s.op.val, .slice s.ba s.bn s.bc, .slice s.aa s.ans.length s.ac, .slice s.ha s.H.length s.hc] 39)).alloc (.cells #[.int .i64 req, .int .i64 node, .int .i64 code, .bool found, .string val, .slice ea ents.length ec] 49)).drew)
    case first =>
      go_region_law (fail)
      all_goals (go_wp2_with fail; go_meet; exact ⟨rfl, rfl, rfl⟩)
    case rest =>
    obtain ⟨rfl, rfl, rfl⟩ := hcut
    obtain ⟨p, hpp⟩ : ∃ p, p = P req := ⟨_, rfl⟩
    rw [← hpp] at d0 d1 d2 d3 d4 d5 hp ⊢
    clear hpp e1 dz
    cases ca with
    | true =>
      go_wp2
      go_quiet (fail)
      go_wp2
      go_ret
      exact ⟨rfl, (HF.out.drew).drewN _⟩
    | false =>
      cases hn : (node == cn) with
      | false =>
        go_wp2
        go_quiet (fail)
        go_wp2
        go_ret
        exact ⟨ret_bool (by first | (simp_all; done) | (simp_all; omega)), (HF.out.drew).drewN _⟩
      | true =>
        cases h1 : decide (1 ≤ code) with
        | false =>
          go_wp2
          go_quiet (fail)
          go_wp2
          go_ret
          exact ⟨ret_bool (by first | (simp_all; done) | (simp_all; omega)), (HF.out.drew).drewN _⟩
        | true =>
          go_wp2
          go_quiet (fail)
          go_wp2
          go_ret
          exact ⟨ret_bool (by first | (simp_all; done) | (simp_all; omega)), (HF.out.drew).drewN _⟩
end
end Go.Proofs.YthdbkanbgfajbaaGreat
