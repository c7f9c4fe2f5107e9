
/- RyRpN, RyArg. -/
import Derived.Test.YtkibbojiflklpaaGreatRYF
import Derived.Deep.DeepCutAuto
import Derived.Test.YtkibbojiflklpaaGreatRGA
import Derived.ChangeSlices
/- Replay, told with where the nodes lie that it hands back. -/
namespace Go.Proofs.YtkibbojiflklpaaGreat
open Go.RowKit Go.Lib

/-- What replayed tells, and where the nodes lie. -/
def RpOutN (ls : List Sl) (w : World) (rv : Value) (ps : List (Int × Nd)) (err : Int) (e : Ending) (w' : World) : Prop := ∃ a' c' ls', e = .returned (.tuple #[.slice a' ls'.length c', .int .i64 err]) ∧ Sv w' (.slice a' ls'.length c') ls' ∧ psOf ls' = ps ∧ Fr (fun k => rv.ownBlock = some k) w w' ∧ ((Value.slice a' ls'.length c').ownBlock = rv.ownBlock ∨ ∀ g, (Value.slice a' ls'.length c').ownBlock = some g → w.heap.size ≤ g) ∧ ∀ s ∈ ls', (∃ t ∈ ls, s.pt = t.pt) ∨ Nw w s.pt


theorem rp_nilN {ls : List Sl} {w W : World} {rv : Value} {err err' : Int} (ps : List (Int × Nd)) (hp : ps = []) (he : err = err') (f : Fr (fun _ => False) w W) : RpOutN ls w rv ps err' (.returned (.tuple #[.slice none 0 0, .int .i64 err])) W := by
  subst hp; subst he
  exact ⟨none, 0, [], rfl, ⟨Has.nil _ _, (fun s hs => by cases hs), (fun s hs => by cases hs)⟩, rfl, f.mono (fun _ _ f => f.elim), .inr (fun g e => by cases e), (fun s hs => by cases hs)⟩
theorem rp_keepN {w W : World} {a : Option Addr} {n c : Nat} {ls : List Sl} {err : Int} (hn : n = ls.length) (h : Sv w (.slice a n c) ls) (ps : List (Int × Nd)) (hp : ps = psOf ls) (he : err = 0) (f : Fr (fun _ => False) w W) : RpOutN ls w (.slice a n c) ps err (.returned (.tuple #[.slice a n c, .int .i64 0])) W := by
  subst hp; subst he; subst hn
  exact ⟨a, c, ls, rfl, h.same f, rfl, f.mono (fun _ _ f => f.elim), .inl rfl, fun s hs => .inl ⟨s, hs, rfl⟩⟩
set_option maxRecDepth 100000 in
set_option maxHeartbeats 4000000 in
theorem replayed_noN (a : Option Addr) (n c : Nat) (ls : List Sl) (hn : n = ls.length) (hf : ls.length ≤ 10000) (hr : Rise ls) (r : Rec) (hkz : r.key.size ≤ 140737488351232) (hvz : r.val.size ≤ 140737488351232) (hb : hasB ls r.page = false) (w : World) (h : Sv w (.slice a n c) ls) :
    Calls Tryz.prog 41 #[.slice a n c, (.agg #[.int .i64 r.lsn, .int .i64 r.ep, .int .i64 r.kind, .int .i64 r.page, .int .i64 r.other, .int .i64 r.req, .string r.key, .string r.val])] w fun e w' => RpOutN ls w (.slice a n c) (rpP (psOf ls) r) (rpE (psOf ls) r) e w' := by
  have hbs := fun W (hW : Slots W a c ls) => bs_any a n c ls hn (by omega) hr r.page W hW
  rw [hb] at hbs
  obtain ⟨i, hi⟩ : ∃ i, i = ahead ls r.page := ⟨_, rfl⟩
  rw [← hi] at hbs
  have hile : i ≤ n := by rw [hi, hn]; exact ahead_le ls r.page
  have hn4 : n ≤ 10000 := by omega
  have f0 := Fr.box w (.cells #[.int .i64 r.lsn, .int .i64 r.ep, .int .i64 r.kind, .int .i64 r.page, .int .i64 r.other, .int .i64 r.req, .string r.key, .string r.val] 54)
  have hsl0 := (h.slots hn).same f0
  have HSV : Hid (Sv w (.slice a n c) ls) := h
  have HR : Hid (∀ W, Fr (fun _ => False) (w.alloc (.cells #[.int .i64 r.lsn, .int .i64 r.ep, .int .i64 r.kind, .int .i64 r.page, .int .i64 r.other, .int .i64 r.req, .string r.key, .string r.val] 54)) W → W.cell? ⟨w.heap.size, 0, none⟩ = some (.int .i64 r.lsn) ∧ W.cell? ⟨w.heap.size, 1, none⟩ = some (.int .i64 r.ep) ∧ W.cell? ⟨w.heap.size, 2, none⟩ = some (.int .i64 r.kind) ∧ W.cell? ⟨w.heap.size, 3, none⟩ = some (.int .i64 r.page) ∧ W.cell? ⟨w.heap.size, 4, none⟩ = some (.int .i64 r.other) ∧ W.cell? ⟨w.heap.size, 5, none⟩ = some (.int .i64 r.req) ∧ W.cell? ⟨w.heap.size, 6, none⟩ = some (.string r.key) ∧ W.cell? ⟨w.heap.size, 7, none⟩ = some (.string r.val)) := fun W f => (rec_cells (rec_at w #[.int .i64 r.lsn, .int .i64 r.ep, .int .i64 r.kind, .int .i64 r.page, .int .i64 r.other, .int .i64 r.req, .string r.key, .string r.val] 54 f)).1
  have hap : ∀ W, Calls Tryz.prog 47 #[.agg #[.int .i64 0, .int .i64 0, .int .i64 0, .string ⟨#[]⟩, .slice none 0 0, .slice none 0 0, .slice none 0 0], .bool false, (.agg #[.int .i64 r.lsn, .int .i64 r.ep, .int .i64 r.kind, .int .i64 r.page, .int .i64 r.other, .int .i64 r.req, .string r.key, .string r.val])] W fun e w' => ApOut (apN zn false r) (apD zn false r) (apE zn false r) W e w' := fun W => apply_any zn zp false r hkz hvz W (zn_nod W)
  have hP : hasP (psOf ls) r.page = false := by rw [← has_ps]; exact hb
  have hN : nodeP (psOf ls) r.page = zn := by unfold nodeP; rw [hP]; rfl
  have HA : Hid (apE zn false r = 1 → rpE (psOf ls) r = 0 ∧ rpP (psOf ls) r = psOf ls) := fun e => rp_arg hP hN e
  have HB : Hid (apE zn false r ≠ 1 → apE zn false r ≠ 0 → rpE (psOf ls) r = apE zn false r ∧ rpP (psOf ls) r = []) := fun e e0 => rp_err hP hN e e0
  have HC : Hid (apE zn false r = 0 → rpE (psOf ls) r = 0 ∧ rpP (psOf ls) r = (psOf ls).take i ++ (r.page, apN zn false r) :: (psOf ls).drop i) := fun e => by rw [hi, ah_ps]; exact rp_ins hP hN e
  have HN : Hid (n = ls.length) := hn
  unfold ApOut at hap
  generalize apE zn false r = ae at *
  generalize apN zn false r = m at *
  generalize apD zn false r = d at *
  clear hP hN hb hi h hkz hvz hr hn hf
  go_enter Tryz.func41, Tryz.ntmps41
  go_wp2_with fail
  refine (hbs _ hsl0).mono ?_
  rintro e w1 ⟨rfl, f1⟩
  have f2 := f1.alloc (.cells #[.int .i64 0, .int .i64 0, .int .i64 0, .string ⟨#[]⟩, .slice none 0 0, .slice none 0 0, .slice none 0 0] 33)
  obtain ⟨r0, r1, r2, r3, r4, r5, r6, r7⟩ := HR.out _ f2
  have hzz := node_cells (heap_alloc_new w1 (.cells #[.int .i64 0, .int .i64 0, .int .i64 0, .string ⟨#[]⟩, .slice none 0 0, .slice none 0 0, .slice none 0 0] 33))
  obtain ⟨⟨z0, z1, z2, z3, z4, z5, z6⟩, _⟩ := hzz
  clear hbs hsl0
  go_wp2_with fail
  refine (hap _).mono ?_
  rintro e w3 ⟨q, rfl, ndq, f3, hnw⟩
  have fr3 := f2.seq' f3
  have hbx := f3.blk (heap_alloc_new w1 (.cells #[.int .i64 0, .int .i64 0, .int .i64 0, .string ⟨#[]⟩, .slice none 0 0, .slice none 0 0, .slice none 0 0] 33)) (fun f => f)
  obtain ⟨hq, ff⟩ := fin7 hbx (.int .i64 m.lev) (.int .i64 m.lsn) (.int .i64 m.rgt) (.string m.high) (.slice q.k m.keys.length q.kc) (.slice q.v m.vals.length q.vc) (.slice q.i m.kids.length q.ic)
  obtain ⟨⟨s0, s1, s2, s3, s4, s5, s6⟩, sz⟩ := node_cells hbx
  have y0 := sz 0; have y1 := sz 1; have y2 := sz 2; have y3 := sz 3; have y4 := sz 4; have y5 := sz 5; have y6 := sz 6
  have hz1 : w.heap.size + 1 ≤ w1.heap.size := by have := f1.size; simp at this; omega
  have hz3 : w1.heap.size + 1 ≤ w3.heap.size := by have := f3.size; simp at this; omega
  have fff := (f0.seq' fr3).trans ff (S := fun _ => False) (fun i hi e => by omega)
  have hNf : Nod (((((((w3.setCell ⟨w1.heap.size, 0, none⟩ (.int .i64 m.lev)).setCell ⟨w1.heap.size, 1, none⟩ (.int .i64 m.lsn)).setCell ⟨w1.heap.size, 2, none⟩ (.int .i64 m.rgt)).setCell ⟨w1.heap.size, 3, none⟩ (.string m.high)).setCell ⟨w1.heap.size, 4, none⟩ (.slice q.k m.keys.length q.kc)).setCell ⟨w1.heap.size, 5, none⟩ (.slice q.v m.vals.length q.vc)).setCell ⟨w1.heap.size, 6, none⟩ (.slice q.i m.kids.length q.ic)) m q := ndq.frS ff (hnw.off (fun b hb e => by simp at hb; omega))
  clear hap r0 r1 r2 r3 r4 r5 r6 r7 z0 z1 z2 z3 z4 z5 z6 sz
  by_cases h1 : ae = 1
  · have hev := HA.out h1
    subst h1
    clear HA HB HC hNf hq
    go_wp2
    generalize ((((((w3.setCell ⟨w1.heap.size, 0, none⟩ (.int .i64 m.lev)).setCell ⟨w1.heap.size, 1, none⟩ (.int .i64 m.lsn)).setCell ⟨w1.heap.size, 2, none⟩ (.int .i64 m.rgt)).setCell ⟨w1.heap.size, 3, none⟩ (.string m.high)).setCell ⟨w1.heap.size, 4, none⟩ (.slice q.k m.keys.length q.kc)).setCell ⟨w1.heap.size, 5, none⟩ (.slice q.v m.vals.length q.vc)).setCell ⟨w1.heap.size, 6, none⟩ (.slice q.i m.kids.length q.ic) = Wf at fff ⊢
    go_ret2
    exact rp_keepN HN.out HSV.out _ hev.2 hev.1 fff
  · by_cases h0 : ae = 0
    · have hev := HC.out h0
      subst h0
      have frW := fr3.trans ff (S := fun _ => False) (fun i hi e => by simp at hi; omega)
      clear HA HB HC
      go_upto_region 6 with fail
      generalize ((((((w3.setCell ⟨w1.heap.size, 0, none⟩ (.int .i64 m.lev)).setCell ⟨w1.heap.size, 1, none⟩ (.int .i64 m.lsn)).setCell ⟨w1.heap.size, 2, none⟩ (.int .i64 m.rgt)).setCell ⟨w1.heap.size, 3, none⟩ (.string m.high)).setCell ⟨w1.heap.size, 4, none⟩ (.slice q.k m.keys.length q.kc)).setCell ⟨w1.heap.size, 5, none⟩ (.slice q.v m.vals.length q.vc)).setCell ⟨w1.heap.size, 6, none⟩ (.slice q.i m.kids.length q.ic) = Wf at *
      obtain ⟨r0, r1, r2, r3, r4, r5, r6, r7⟩ := HR.out _ frW
      obtain ⟨⟨t0, t1, t2, t3, t4, t5, t6⟩, _⟩ := node_cells hq
      clear s0 s1 s2 s3 s4 s5 s6 y0 y1 y2 y3 y4 y5 y6 f1 f2 f3 fr3 hbx ff
      have hsW := HSV.out.same fff
      have hown : ∀ k, (Value.slice a n c).ownBlock = some k → k < w.heap.size := fun k hk => HSV.out.has.lt hk
      have hszW : w.heap.size ≤ Wf.heap.size := fff.size
      have fA := (Fr.refl (fun _ => False) Wf).alloc (.cells #[.int .i64 r.page, .int .i64 m.lev, .int .i64 m.lsn, .int .i64 m.rgt, .string m.high, .slice q.k m.keys.length q.kc, .slice q.v m.vals.length q.vc, .slice q.i m.kids.length q.ic] 35)
      have hsA := hsW.same fA
      have hoq : Off (fun k => (Value.slice a n c).ownBlock = some k) m q := hnw.off (fun b hb e => by have := hown b e; simp at hb; omega)
      have hin := ins8_any a n c i Wf.heap.size (ls.flatMap slC) (slC ⟨r.page, m, q⟩) rfl (Wf.alloc (.cells #[.int .i64 r.page, .int .i64 m.lev, .int .i64 m.lsn, .int .i64 m.rgt, .string m.high, .slice q.k m.keys.length q.kc, .slice q.v m.vals.length q.vc, .slice q.i m.kids.length q.ic] 35)) hile (by omega) 35 (by have := hsA.has; rwa [← HN.out] at this) (fun e => by have := hown _ e; omega) (slCs_one ls) (slC_one _) (heap_alloc_new Wf _)
      have HIN : Hid (∀ e w', InsO8 (Wf.alloc (.cells #[.int .i64 r.page, .int .i64 m.lev, .int .i64 m.lsn, .int .i64 m.rgt, .string m.high, .slice q.k m.keys.length q.kc, .slice q.v m.vals.length q.vc, .slice q.i m.kids.length q.ic] 35)) (.slice a n c) (n + 1) ((ls.flatMap slC).take (i * 8) ++ (slC ⟨r.page, m, q⟩ ++ (ls.flatMap slC).drop (i * 8))) e w' → ∃ v, e = .returned v ∧ RpOutN ls w (.slice a n c) (rpP (psOf ls) r) (rpE (psOf ls) r) (.returned (.tuple #[v, .int .i64 0])) w') := by
        rintro e w' ⟨a', c', rfl, hh, hfr, hat⟩
        refine ⟨_, rfl, ?_⟩
        have hl : (ls.take i ++ (⟨r.page, m, q⟩ : Sl) :: ls.drop i).length = n + 1 := by have := HN.out; rw [this]; simp; have := hile; omega
        have hsv := hsA.ins HN.out ⟨r.page, m, q⟩ (hNf.same fA) hoq hh hfr hat
        rw [hev.1, hev.2]
        refine ⟨a', c', ls.take i ++ ⟨r.page, m, q⟩ :: ls.drop i, by rw [hl], by rw [hl]; exact hsv, ps_ins _ _ _, ?_, ?_, ?_⟩
        · exact ((fff.seq' fA).mono (T := fun k => (Value.slice a n c).ownBlock = some k) (fun _ _ f => f.elim)).trans hfr (fun k _ e => e)
        · rw [hl]
          rcases hat with e | ⟨g, e, hg⟩
          · exact .inl e
          · exact .inr (fun k hk => by rw [e] at hk; cases hk; simp at hg; omega)
        · intro s' hs'
          rw [List.mem_append, List.mem_cons] at hs'
          rcases hs' with h' | rfl | h'
          · exact .inl ⟨s', List.mem_of_mem_take h', rfl⟩
          · exact .inr (fun b o e => by have := hnw b o e; simp at this; omega)
          · exact .inl ⟨s', List.mem_of_mem_drop h', rfl⟩
      clear hsA hsW hoq hNf hnw ndq hev fff
      go_wp2_with fail
      refine hin.mono ?_
      intro e w5 ho5
      obtain ⟨v, rfl, hout⟩ := HIN.out e w5 ho5
      go_wp2
      go_ret2
      exact hout
    · have hev := HB.out h1 h0
      have hb1 : (ae == 1) = false := by simpa using h1
      have hb0 : (ae != 0) = true := by simpa using h0
      clear HA HB HC hNf hq h1 h0
      go_wp2
      generalize ((((((w3.setCell ⟨w1.heap.size, 0, none⟩ (.int .i64 m.lev)).setCell ⟨w1.heap.size, 1, none⟩ (.int .i64 m.lsn)).setCell ⟨w1.heap.size, 2, none⟩ (.int .i64 m.rgt)).setCell ⟨w1.heap.size, 3, none⟩ (.string m.high)).setCell ⟨w1.heap.size, 4, none⟩ (.slice q.k m.keys.length q.kc)).setCell ⟨w1.heap.size, 5, none⟩ (.slice q.v m.vals.length q.vc)).setCell ⟨w1.heap.size, 6, none⟩ (.slice q.i m.kids.length q.ic) = Wf at fff ⊢
      go_ret2
      exact rp_nilN _ hev.2 hev.1.symm fff

set_option maxRecDepth 100000 in
set_option maxHeartbeats 4000000 in
theorem replayed_yesN (a : Option Addr) (n c : Nat) (ls : List Sl) (hn : n = ls.length) (hf : ls.length ≤ 10000) (hr : Rise ls) (r : Rec) (hkz : r.key.size ≤ 140737488351232) (hvz : r.val.size ≤ 140737488351232) (hb : hasB ls r.page = true) (w : World) (h : Sv w (.slice a n c) ls) :
    Calls Tryz.prog 41 #[.slice a n c, (.agg #[.int .i64 r.lsn, .int .i64 r.ep, .int .i64 r.kind, .int .i64 r.page, .int .i64 r.other, .int .i64 r.req, .string r.key, .string r.val])] w fun e w' => RpOutN ls w (.slice a n c) (rpP (psOf ls) r) (rpE (psOf ls) r) e w' := by
  have hbs := fun W (hW : Slots W a c ls) => bs_any a n c ls hn (by omega) hr r.page W hW
  rw [hb] at hbs
  obtain ⟨s, hs, hsp⟩ := has_at hb
  obtain ⟨i, hi⟩ : ∃ i, i = ahead ls r.page := ⟨_, rfl⟩
  rw [← hi] at hbs hs
  have hilt : i < n := by rw [hn]; exact (List.getElem?_eq_some_iff.1 hs).1
  obtain ⟨g, c2, e0, hg, hnc, hcm, _⟩ := h.has.form (by omega)
  rw [← hn] at e0
  simp only [Value.slice.injEq, true_and] at e0
  obtain ⟨rfl, rfl⟩ := e0
  have hc63 : c ≤ 9223372036854775807 := by unfold maxLen at hcm; omega
  have hnc' : n ≤ c := by omega
  have hn4 : n ≤ 10000 := by omega
  have f0 := Fr.box w (.cells #[.int .i64 r.lsn, .int .i64 r.ep, .int .i64 r.kind, .int .i64 r.page, .int .i64 r.other, .int .i64 r.req, .string r.key, .string r.val] 54)
  have hsl0 := (h.slots hn).same f0
  have HSV : Hid (Sv w (.slice (some ⟨g, 0, none⟩) n c) ls) := h
  have HR : Hid (∀ W, Fr (fun _ => False) (w.alloc (.cells #[.int .i64 r.lsn, .int .i64 r.ep, .int .i64 r.kind, .int .i64 r.page, .int .i64 r.other, .int .i64 r.req, .string r.key, .string r.val] 54)) W → W.cell? ⟨w.heap.size, 0, none⟩ = some (.int .i64 r.lsn) ∧ W.cell? ⟨w.heap.size, 1, none⟩ = some (.int .i64 r.ep) ∧ W.cell? ⟨w.heap.size, 2, none⟩ = some (.int .i64 r.kind) ∧ W.cell? ⟨w.heap.size, 3, none⟩ = some (.int .i64 r.page) ∧ W.cell? ⟨w.heap.size, 4, none⟩ = some (.int .i64 r.other) ∧ W.cell? ⟨w.heap.size, 5, none⟩ = some (.int .i64 r.req) ∧ W.cell? ⟨w.heap.size, 6, none⟩ = some (.string r.key) ∧ W.cell? ⟨w.heap.size, 7, none⟩ = some (.string r.val)) := fun W f => (rec_cells (rec_at w #[.int .i64 r.lsn, .int .i64 r.ep, .int .i64 r.kind, .int .i64 r.page, .int .i64 r.other, .int .i64 r.req, .string r.key, .string r.val] 54 f)).1
  have HE : Hid (∀ W, Fr (fun _ => False) w W → W.rangeAt g (i * 8) (slC s)) := fun W f => by have := (h.same f).has; rw [← hn] at this; exact this.elem slC_length hs
  have HND : Hid (∀ W, Fr (fun _ => False) w W → Nod W s.nd s.pt) := fun W f => (h.nod s (List.mem_of_getElem? hs)).same f
  have hap := apply_any s.nd s.pt true r hkz hvz
  have hP : hasP (psOf ls) r.page = true := by rw [← has_ps]; exact hb
  have hN : nodeP (psOf ls) r.page = s.nd := by
    unfold nodeP
    rw [hP, if_pos rfl, ← ah_ps, ← hi]
    unfold psOf
    rw [List.getElem?_map, hs]
    rfl
  have HA : Hid (apE s.nd true r = 1 → rpE (psOf ls) r = 0 ∧ rpP (psOf ls) r = psOf ls) := fun e => rp_arg hP hN e
  have HB : Hid (apE s.nd true r ≠ 1 → apE s.nd true r ≠ 0 → rpE (psOf ls) r = apE s.nd true r ∧ rpP (psOf ls) r = []) := fun e e0 => rp_err hP hN e e0
  have HC : Hid (apE s.nd true r = 0 → rpE (psOf ls) r = 0 ∧ rpP (psOf ls) r = (psOf ls).set i (s.page, apN s.nd true r)) := fun e => by rw [hi, ah_ps, hsp]; exact rp_set hP hN e
  have HN : Hid (n = ls.length) := hn
  have HS : Hid (ls[i]? = some s) := hs
  unfold ApOut at hap
  generalize apE s.nd true r = ae at *
  generalize apN s.nd true r = m at *
  generalize apD s.nd true r = d at *
  clear hP hN hb hi h hkz hvz hr hn hf hs hsp
  go_enter Tryz.func41, Tryz.ntmps41
  go_wp2_with fail
  refine (hbs _ hsl0).mono ?_
  rintro e w1 ⟨rfl, f1⟩
  have f2 := f1.alloc (.cells #[.int .i64 0, .int .i64 0, .int .i64 0, .string ⟨#[]⟩, .slice none 0 0, .slice none 0 0, .slice none 0 0] 33)
  have f2b := f1.alloc (.cells #[.int .i64 s.nd.lev, .int .i64 s.nd.lsn, .int .i64 s.nd.rgt, .string s.nd.high, .slice s.pt.k s.nd.keys.length s.pt.kc, .slice s.pt.v s.nd.vals.length s.pt.vc, .slice s.pt.i s.nd.kids.length s.pt.ic] 33)
  obtain ⟨r0, r1, r2, r3, r4, r5, r6, r7⟩ := HR.out _ f2b
  obtain ⟨q0, q1, q2, q3, q4, q5, q6, q7⟩ := sl_range (HE.out _ (f0.seq' f2))
  clear hbs hsl0
  go_wp2_with fail
  refine (hap _ (HND.out _ (f0.seq' f2b))).mono ?_
  rintro e w3 ⟨q, rfl, ndq, f3, hnw⟩
  have fr3 := f2b.seq' f3
  have hbx := f3.blk (heap_alloc_new w1 (.cells #[.int .i64 s.nd.lev, .int .i64 s.nd.lsn, .int .i64 s.nd.rgt, .string s.nd.high, .slice s.pt.k s.nd.keys.length s.pt.kc, .slice s.pt.v s.nd.vals.length s.pt.vc, .slice s.pt.i s.nd.kids.length s.pt.ic] 33)) (fun f => f)
  obtain ⟨hq, ff⟩ := fin7 hbx (.int .i64 m.lev) (.int .i64 m.lsn) (.int .i64 m.rgt) (.string m.high) (.slice q.k m.keys.length q.kc) (.slice q.v m.vals.length q.vc) (.slice q.i m.kids.length q.ic)
  obtain ⟨⟨s0, s1, s2, s3, s4, s5, s6⟩, sz⟩ := node_cells hbx
  have y0 := sz 0; have y1 := sz 1; have y2 := sz 2; have y3 := sz 3; have y4 := sz 4; have y5 := sz 5; have y6 := sz 6
  have hz1 : w.heap.size + 1 ≤ w1.heap.size := by have := f1.size; simp at this; omega
  have hz3 : w1.heap.size + 1 ≤ w3.heap.size := by have := f3.size; simp at this; omega
  have fff := (f0.seq' fr3).trans ff (S := fun _ => False) (fun i hi e => by omega)
  have hNf : Nod (((((((w3.setCell ⟨w1.heap.size, 0, none⟩ (.int .i64 m.lev)).setCell ⟨w1.heap.size, 1, none⟩ (.int .i64 m.lsn)).setCell ⟨w1.heap.size, 2, none⟩ (.int .i64 m.rgt)).setCell ⟨w1.heap.size, 3, none⟩ (.string m.high)).setCell ⟨w1.heap.size, 4, none⟩ (.slice q.k m.keys.length q.kc)).setCell ⟨w1.heap.size, 5, none⟩ (.slice q.v m.vals.length q.vc)).setCell ⟨w1.heap.size, 6, none⟩ (.slice q.i m.kids.length q.ic)) m q := ndq.frS ff (hnw.off (fun b hb e => by simp at hb; omega))
  clear hap r0 r1 r2 r3 r4 r5 r6 r7 q0 q1 q2 q3 q4 q5 q6 q7 sz
  by_cases h1 : ae = 1
  · have hev := HA.out h1
    subst h1
    clear HA HB HC hNf hq
    go_wp2
    generalize ((((((w3.setCell ⟨w1.heap.size, 0, none⟩ (.int .i64 m.lev)).setCell ⟨w1.heap.size, 1, none⟩ (.int .i64 m.lsn)).setCell ⟨w1.heap.size, 2, none⟩ (.int .i64 m.rgt)).setCell ⟨w1.heap.size, 3, none⟩ (.string m.high)).setCell ⟨w1.heap.size, 4, none⟩ (.slice q.k m.keys.length q.kc)).setCell ⟨w1.heap.size, 5, none⟩ (.slice q.v m.vals.length q.vc)).setCell ⟨w1.heap.size, 6, none⟩ (.slice q.i m.kids.length q.ic) = Wf at fff ⊢
    go_ret2
    exact rp_keepN HN.out HSV.out _ hev.2 hev.1 fff
  · by_cases h0 : ae = 0
    · have hev := HC.out h0
      subst h0
      clear HA HB HC
      go_upto_region 6 with fail
      generalize ((((((w3.setCell ⟨w1.heap.size, 0, none⟩ (.int .i64 m.lev)).setCell ⟨w1.heap.size, 1, none⟩ (.int .i64 m.lsn)).setCell ⟨w1.heap.size, 2, none⟩ (.int .i64 m.rgt)).setCell ⟨w1.heap.size, 3, none⟩ (.string m.high)).setCell ⟨w1.heap.size, 4, none⟩ (.slice q.k m.keys.length q.kc)).setCell ⟨w1.heap.size, 5, none⟩ (.slice q.v m.vals.length q.vc)).setCell ⟨w1.heap.size, 6, none⟩ (.slice q.i m.kids.length q.ic) = Wf at *
      obtain ⟨⟨t0, t1, t2, t3, t4, t5, t6⟩, _⟩ := node_cells hq
      clear s0 s1 s2 s3 s4 s5 s6 y0 y1 y2 y3 y4 y5 y6 f1 f2 f2b f3 fr3 hbx ff
      obtain ⟨q0, q1, q2, q3, q4, q5, q6, q7⟩ := sl_range (HE.out _ fff)
      have hsW := HSV.out.same fff
      obtain ⟨g3, c3, e3, hg3, _, _, hth, _⟩ := hsW.has.form (by have := HN.out; omega)
      rw [← HN.out] at e3
      simp only [Value.slice.injEq, Option.some.injEq, Addr.mk.injEq, and_true, true_and] at e3
      obtain ⟨rfl, rfl⟩ := e3
      have hfz : ∀ j, j < 8 → Wf.frozen? ⟨g, i * 8 + j, none⟩ = false := fun j hj => by have := (hth (i * 8 + j) (by omega)).2; rwa [Nat.zero_add] at this
      have y1 := hfz 1 (by omega); have y2 := hfz 2 (by omega); have y3 := hfz 3 (by omega); have y4 := hfz 4 (by omega); have y5 := hfz 5 (by omega); have y6 := hfz 6 (by omega); have y7 := hfz 7 (by omega)
      have HFIN : Hid (RpOutN ls w (.slice (some ⟨g, 0, none⟩) n c) (rpP (psOf ls) r) (rpE (psOf ls) r) (.returned (.tuple #[.slice (some ⟨g, 0, none⟩) n c, .int .i64 0])) (Wf.setCells g (i * 8 + 1) [.int .i64 m.lev, .int .i64 m.lsn, .int .i64 m.rgt, .string m.high, .slice q.k m.keys.length q.kc, .slice q.v m.vals.length q.vc, .slice q.i m.kids.length q.ic])) := by
        have hsv := hsW.set HN.out HS.out m q hNf (hnw.off (fun b hb e => by simp at hb; omega))
        have hl : (ls.set i ⟨s.page, m, q⟩).length = n := by rw [List.length_set]; exact HN.out.symm
        show RpOutN _ _ _ _ _ _ _
        rw [hev.1, hev.2]
        refine ⟨_, c, ls.set i ⟨s.page, m, q⟩, by rw [hl], by rw [hl]; exact hsv, ps_set _ _ _, ?_, .inl (by rw [hl]), fun s' hs' => (List.mem_or_eq_of_mem_set hs').elim (fun h' => .inl ⟨s', h', rfl⟩) (fun h' => by subst h'; exact .inr (fun b o e => by have := hnw b o e; simp at this; omega))⟩
        exact (fff.mono (T := fun k => (Value.slice (some ⟨g, 0, none⟩) n c).ownBlock = some k) (fun _ _ f => f.elim)).trans (Fr.setCells (S := fun k => k = g) (fun _ => rfl) _ _ (Fr.refl _ Wf)) (fun k _ e => by rw [e]; rfl)
      clear hsW hNf hnw ndq hev fff hth hfz
      go_wp2
      go_ret2
      exact HFIN.out
    · have hev := HB.out h1 h0
      have hb1 : (ae == 1) = false := by simpa using h1
      have hb0 : (ae != 0) = true := by simpa using h0
      clear HA HB HC hNf hq h1 h0
      go_wp2
      generalize ((((((w3.setCell ⟨w1.heap.size, 0, none⟩ (.int .i64 m.lev)).setCell ⟨w1.heap.size, 1, none⟩ (.int .i64 m.lsn)).setCell ⟨w1.heap.size, 2, none⟩ (.int .i64 m.rgt)).setCell ⟨w1.heap.size, 3, none⟩ (.string m.high)).setCell ⟨w1.heap.size, 4, none⟩ (.slice q.k m.keys.length q.kc)).setCell ⟨w1.heap.size, 5, none⟩ (.slice q.v m.vals.length q.vc)).setCell ⟨w1.heap.size, 6, none⟩ (.slice q.i m.kids.length q.ic) = Wf at fff ⊢
      go_ret2
      exact rp_nilN _ hev.2 hev.1.symm fff

theorem replayed_anyN (a : Option Addr) (n c : Nat) (ls : List Sl) (hn : n = ls.length) (hf : ls.length ≤ 10000) (hr : Rise ls) (r : Rec) (hkz : r.key.size ≤ 140737488351232) (hvz : r.val.size ≤ 140737488351232) (w : World) (h : Sv w (.slice a n c) ls) :
    Calls Tryz.prog 41 #[.slice a n c, (.agg #[.int .i64 r.lsn, .int .i64 r.ep, .int .i64 r.kind, .int .i64 r.page, .int .i64 r.other, .int .i64 r.req, .string r.key, .string r.val])] w fun e w' => RpOutN ls w (.slice a n c) (rpP (psOf ls) r) (rpE (psOf ls) r) e w' := by
  cases hb : hasB ls r.page
  · exact replayed_noN a n c ls hn hf hr r hkz hvz hb w h
  · exact replayed_yesN a n c ls hn hf hr r hkz hvz hb w h


/-- What Replay tells, and where its nodes lie. -/
def RplOutN (w : World) (o : List (Int × Nd) × Int) (e : Ending) (w' : World) : Prop := ∃ a' c' ls', e = .returned (.tuple #[.slice a' ls'.length c', .int .i64 o.2]) ∧ Sv w' (.slice a' ls'.length c') ls' ∧ psOf ls' = o.1 ∧ Fr (fun _ => False) w w' ∧ (∀ s ∈ ls', Nw w s.pt) ∧ ∀ g, (Value.slice a' ls'.length c').ownBlock = some g → w.heap.size ≤ g
theorem rpl_nilN {w W : World} {o : List (Int × Nd) × Int} {err : Int} (h : o = ([], err)) (f : Fr (fun _ => False) w W) : RplOutN w o (.returned (.tuple #[.slice none 0 0, .int .i64 err])) W := by
  subst h
  exact ⟨none, 0, [], rfl, ⟨Has.nil _ _, (fun s hs => by cases hs), (fun s hs => by cases hs)⟩, rfl, f, (fun s hs => by cases hs), (fun g e => by cases e)⟩
set_option maxRecDepth 100000 in
set_option maxHeartbeats 8000000 in
theorem replay_anyN (a a2 : Option Addr) (n c n2 c2 : Nat) (ls : List Sl) (rs : List Rec) (hn : n = ls.length) (hn2 : n2 = rs.length) (hz : ∀ r ∈ rs, r.key.size ≤ 140737488351232 ∧ r.val.size ≤ 140737488351232) (w : World) (h : Slots w a c ls) (h2 : Recs w a2 c2 rs) :
    Calls Tryz.prog 12 #[.slice a n c, .slice a2 n2 c2] w fun e w' => RplOutN w (rplA (psOf ls) rs) e w' := by
  have har := areRight_any a n c ls hn w h
  cases hok : ariB 0 (psOf ls)
  · rw [hok] at har
    have hev : rplA (psOf ls) rs = ([], 70) := by unfold rplA; rw [hok]; rfl
    have HEV : Hid (rplA (psOf ls) rs = ([], 70)) := hev
    clear hok hz h h2 hn hn2 hev
    go_enter Tryz.func12, Tryz.ntmps12
    go_wp2_with fail
    refine har.mono ?_
    rintro e w1 ⟨rfl, f1⟩
    clear har
    go_wp2
    go_ret2
    exact rpl_nilN HEV.out f1
  · rw [hok] at har
    have hev : rplA (psOf ls) rs = rplP (psOf ls) rs := by unfold rplA; rw [hok]; rfl
    have hps := ari_psok hok
    have hfew := hps.few
    rw [ps_length] at hfew
    have hcl := fun W hW => clone8 a n c ls W hW hn (by omega)
    have HRT : Hid (∀ p ∈ psOf ls, rightB p.2 = true) := (ari_ok 0 _ hok).2.2
    have HSL : Hid (∀ W, Fr (fun _ => False) w W → Slots W a c ls) := fun W f => h.same f
    have HRS : Hid (∀ W, Fr (fun _ => False) w W → Recs W a2 c2 rs) := fun W f => h2.same f
    have HPS : Hid (PsOk (psOf ls)) := hps
    have HEV : Hid (rplA (psOf ls) rs = rplP (psOf ls) rs) := hev
    have hle2 : n2 ≤ c2 := by rw [hn2]; exact h2.le
    have hm2 := h2.max
    have HN2 : Hid (n2 = rs.length) := hn2
    have HZ : Hid (∀ r ∈ rs, r.key.size ≤ 140737488351232 ∧ r.val.size ≤ 140737488351232) := hz
    have hn4 : n ≤ 4096 := by omega
    have HN : Hid (n = ls.length) := hn
    clear hok hev hps hz h h2 hn hn2
    unfold SvOut at hcl
    go_enter Tryz.func12, Tryz.ntmps12
    go_wp2_with fail
    refine har.mono ?_
    rintro e w1 ⟨rfl, f1⟩
    go_wp2_with fail
    refine (hcl _ (HSL.out _ f1)).mono ?_
    rintro e w2 ⟨b, cb, rfl, hsv, f2, hnew⟩
    rw [← HN.out] at hsv hnew ⊢
    have F2 := f1.seq' f2
    have hz1 := f1.size
    have hnc : n ≤ cb ∧ cb ≤ 9223372036854775807 := by
      obtain ⟨a', c', he, h1, h2⟩ := hsv.has.slice
      rw [← HN.out] at he
      simp only [Value.slice.injEq, true_and] at he
      obtain ⟨rfl, rfl⟩ := he
      unfold maxLen at h2
      have := HN.out
      exact ⟨by omega, h2⟩
    have HSV : Hid (Sv w2 (.slice b n cb) ls) := hsv
    have HNW : Hid (∀ k, (Value.slice b n cb).ownBlock = some k → w1.heap.size ≤ k) := hnew
    clear hcl har hsv hnew
    go_wp2
    go_loopw [17] (fun i wr => ∃ (k : Nat) (lp : List Sl), k ≤ n ∧ i = .int .i64 k ∧ Hid (psOf lp = psOf ls) ∧ Hid (Sv wr (.slice b n cb) lp) ∧ Hid (∀ j s, j < k → lp[j]? = some s → Nw w s.pt) ∧ Fr (fun k => (Value.slice b n cb).ownBlock = some k) w2 wr) (fun i _ => n - (RowKit.intOf i).toNat)
    case atStart => exact ⟨0, ls, by omega, rfl, rfl, HSV.out, (fun j s hj => by omega), Fr.refl _ _⟩
    case round =>
      obtain ⟨k, lp, hk, rfl, HP, HS, HW, F⟩ := hrel
      have hln : n = lp.length := by have := congrArg List.length HP.out; rw [ps_length, ps_length] at this; have := HN.out; omega
      by_cases hlt : k < n
      · obtain ⟨s, hs⟩ : ∃ s, lp[k]? = some s := ⟨_, List.getElem?_eq_getElem (by omega)⟩
        obtain ⟨g, c3, e0, hg, _, _, hth, _⟩ := HS.out.has.form (by omega)
        rw [← hln] at e0
        simp only [Value.slice.injEq, true_and] at e0
        obtain ⟨rfl, rfl⟩ := e0
        have HLN : Hid (n = lp.length) := hln
        have hR : Rt s.nd := by
          refine (right_iff _).1 (HRT.out (s.page, s.nd) ?_)
          rw [← HP.out]
          exact List.mem_map.2 ⟨s, List.mem_of_getElem? hs, rfl⟩
        have hfw := rt_few hR
        have hcp := rd_copied s.nd s.pt hfw.1 hfw.2.1 hfw.2.2 wr (HS.out.nod s (List.mem_of_getElem? hs))
        have HE : Hid (∀ W, Fr (fun _ => False) wr W → W.rangeAt g (k * 8) (slC s)) := fun W f => by have := (HS.out.same f).has; rw [← HLN.out] at this; exact this.elem slC_length hs
        have HFZ : Hid (∀ W, Fr (fun _ => False) wr W → ∀ j, j < 8 → W.frozen? ⟨g, k * 8 + j, none⟩ = false) := fun W f j hj => by
          obtain ⟨g3, c3, e3, _, _, _, hth, _⟩ := (HS.out.same f).has.form (by have := HLN.out; omega)
          rw [← HLN.out] at e3
          simp only [Value.slice.injEq, Option.some.injEq, Addr.mk.injEq, and_true, true_and] at e3
          obtain ⟨rfl, rfl⟩ := e3
          have := (hth (k * 8 + j) (by have := HLN.out; omega)).2
          rwa [Nat.zero_add] at this
        obtain ⟨q0, q1, q2, q3, q4, q5, q6, q7⟩ := sl_range (HE.out _ (Fr.refl _ wr))
        have HSS : Hid (lp[k]? = some s) := hs
        have hki : (k : Int) < (n : Int) := by omega
        have hncb := hnc.1
        have hcm := hnc.2
        clear hs hth hln hnc
        go_wp2_with fail
        refine hcp.mono ?_
        intro e w3 ho3
        obtain ⟨q, rfl, ndq, hnw, f3⟩ := cp_nod ho3 (rt_short3 hR) hfw.1 hfw.2.1 hfw.2.2
        clear hcp ho3 q0 q1 q2 q3 q4 q5 q6 q7
        obtain ⟨q0, q1, q2, q3, q4, q5, q6, q7⟩ := sl_range (HE.out _ f3)
        have hfz := HFZ.out _ f3
        have y1 := hfz 1 (by omega); have y2 := hfz 2 (by omega); have y3 := hfz 3 (by omega); have y4 := hfz 4 (by omega); have y5 := hfz 5 (by omega); have y6 := hfz 6 (by omega); have y7 := hfz 7 (by omega)
        have HFIN : Hid (Sv (w3.setCells g (k * 8 + 1) [.int .i64 s.nd.lev, .int .i64 s.nd.lsn, .int .i64 s.nd.rgt, .string s.nd.high, .slice q.k s.nd.keys.length q.kc, .slice q.v s.nd.vals.length q.vc, .slice q.i s.nd.kids.length q.ic]) (.slice (some ⟨g, 0, none⟩) n cb) (lp.set k ⟨s.page, s.nd, q⟩)) := (HS.out.same f3).set HLN.out HSS.out s.nd q ndq (hnw.off (fun b hb e => by omega))
        have HFF : Hid (Fr (fun k => (Value.slice (some ⟨g, 0, none⟩) n cb).ownBlock = some k) w2 (w3.setCells g (k * 8 + 1) [.int .i64 s.nd.lev, .int .i64 s.nd.lsn, .int .i64 s.nd.rgt, .string s.nd.high, .slice q.k s.nd.keys.length q.kc, .slice q.v s.nd.vals.length q.vc, .slice q.i s.nd.kids.length q.ic])) := (F.trans f3 (fun _ _ f => f.elim)).trans (Fr.setCells (S := fun k => k = g) (fun _ => rfl) _ _ (Fr.refl _ w3)) (fun k _ e => by rw [e]; rfl)
        have HPP : Hid (psOf (lp.set k ⟨s.page, s.nd, q⟩) = psOf ls) := by
          show _ = _
          rw [ps_set, ← HP.out]
          unfold psOf
          apply List.ext_getElem?
          intro j
          rw [List.getElem?_set]
          split
          · rename_i hj
            subst hj
            rw [if_pos (by have := HLN.out; simp; omega), List.getElem?_map, HSS.out]
            rfl
          · rfl
        have HW5 : Hid (∀ j t, j < k + 1 → (lp.set k ⟨s.page, s.nd, q⟩)[j]? = some t → Nw w t.pt) := fun j t hj ht => by
          rw [List.getElem?_set] at ht
          by_cases e : k = j
          · rw [if_pos e] at ht
            split at ht
            · cases ht
              intro b o e2
              have := hnw b o e2
              have h2 := F.size
              have h3 := F2.size
              omega
            · cases ht
          · rw [if_neg e] at ht
            exact HW.out j t (by omega) ht
        clear hfz ndq hnw
        go_wp2
        go_roundw
        case rel => exact ⟨k + 1, lp.set k ⟨s.page, s.nd, q⟩, by omega, by go_num, HPP, HFIN, HW5, HFF.out⟩
        case measure => simp [RowKit.intOf]; omega
      · obtain rfl : k = n := by omega
        have HF : Hid (Fr (fun _ => False) w wr) := F2.trans F (fun i hi e => by have := HNW.out i e; omega)
        have HNB : Hid (∀ g, (Value.slice b k cb).ownBlock = some g → w.heap.size ≤ g) := fun g e => by have := HNW.out g e; omega
        have HPK : Hid (PsOk (psOf lp)) := by rw [← HP.out] at HPS; exact HPS
        have HLN : Hid (k = lp.length) := hln
        have HWL : Hid (∀ s ∈ lp, Nw w s.pt) := fun s hs => by
          obtain ⟨j, hj⟩ := List.getElem?_of_mem hs
          exact HW.out j s (by have := (List.getElem?_eq_some_iff.1 hj).1; omega) hj
        clear hln HSV HNW F F2 f1 f2 hnc
        go_wp2
        go_loopw [33, 0] (fun i l wr => ∃ (j m : Nat) (a' : Option Addr) (c' : Nat) (lq : List Sl), j ≤ n2 ∧ i = .int .i64 j ∧ l = .slice a' m c' ∧ Hid (m = lq.length) ∧ Hid (rplP (psOf lq) (rs.drop j) = rplP (psOf ls) rs) ∧ Hid (PsOk (psOf lq)) ∧ Hid (Sv wr (.slice a' m c') lq) ∧ Hid (∀ s ∈ lq, Nw w s.pt) ∧ Hid (∀ g, (Value.slice a' m c').ownBlock = some g → w.heap.size ≤ g) ∧ Fr (fun _ => False) w wr) (fun i _ _ => n2 - (RowKit.intOf i).toNat)
        case atStart => exact ⟨0, k, b, cb, lp, by omega, rfl, rfl, HLN, by show _ = _; rw [HP.out]; rfl, HPK, HS, HWL, HNB, HF.out⟩
        case round =>
          obtain ⟨j, m, a', c', lq, hj, rfl, rfl, HM, HE, HQ, HV, HW2, HO, F⟩ := hrel
          by_cases hlt : j < n2
          · obtain ⟨r, hr⟩ : ∃ r, rs[j]? = some r := ⟨_, List.getElem?_eq_getElem (by have := HN2.out; omega)⟩
            obtain ⟨bb, off, rfl, hbb, hcc⟩ := (HRS.out _ F).some (by have := HN2.out; omega)
            obtain ⟨q0, q1, q2, q3, q4, q5, q6, q7⟩ := rec_range (hcc j r hr)
            have HNX : Hid (rplP (psOf lq) (rs.drop j) = if rpE (psOf lq) r = 0 then rplP (rpP (psOf lq) r) (rs.drop (j + 1)) else ([], rpE (psOf lq) r)) := rpl_next (psOf lq) hr
            have hzr := HZ.out r (List.mem_of_getElem? hr)
            have FB := F.alloc (.cells #[.int .i64 r.lsn, .int .i64 r.ep, .int .i64 r.kind, .int .i64 r.page, .int .i64 r.other, .int .i64 r.req, .string r.key, .string r.val] 54)
            have hlf := HQ.out.few
            rw [ps_length] at hlf
            have hrp := replayed_anyN a' m c' lq HM.out (by omega) HQ.out.rise r hzr.1 hzr.2 (wr.alloc (.cells #[.int .i64 r.lsn, .int .i64 r.ep, .int .i64 r.kind, .int .i64 r.page, .int .i64 r.other, .int .i64 r.req, .string r.key, .string r.val] 54)) (HV.out.same ((Fr.refl _ wr).alloc _))
            have HST : Hid (rpE (psOf lq) r = 0 → PsOk (rpP (psOf lq) r)) := HQ.out.step r
            have hji : (j : Int) < (n2 : Int) := by omega
            obtain ⟨er, her⟩ : ∃ er, er = rpE (psOf lq) r := ⟨_, rfl⟩
            rw [← her] at hrp HNX HST
            clear hr hcc her hzr hlf
            unfold RpOutN at hrp
            by_cases h0 : er = 0
            · subst h0
              rw [if_pos rfl] at HNX
              go_wp2_with fail
              refine hrp.mono ?_
              rintro e w5 ⟨a5, c5, l5, rfl, sv5, ps5, f5, own5, nw5⟩
              obtain ⟨m5, hm5⟩ : ∃ m5, m5 = l5.length := ⟨_, rfl⟩
              rw [← hm5] at sv5 own5 ⊢
              have HM5 : Hid (m5 = l5.length) := hm5
              have HV5 : Hid (Sv w5 (.slice a5 m5 c5) l5) := sv5
              have HE5 : Hid (rplP (psOf l5) (rs.drop (j + 1)) = rplP (psOf ls) rs) := by show _ = _; rw [ps5, ← HNX.out]; exact HE.out
              have HQ5 : Hid (PsOk (psOf l5)) := by rw [ps5]; exact HST.out trivial
              have HO5 : Hid (∀ g, (Value.slice a5 m5 c5).ownBlock = some g → w.heap.size ≤ g) := fun g e => by
                rcases own5 with h | h
                · rw [h] at e; exact HO.out g e
                · have := h g e; have := FB.size; omega
              have F5 := FB.trans f5 (S := fun _ => False) (fun i hi e => by have := HO.out i e; omega)
              have HW6 : Hid (∀ s ∈ l5, Nw w s.pt) := fun s hs => by
                rcases nw5 s hs with ⟨t, ht, e⟩ | h
                · rw [e]; exact HW2.out t ht
                · intro b o e2
                  have := h b o e2
                  have h2 := FB.size
                  omega
              clear hrp sv5 own5 nw5 ps5 hm5 f5 q0 q1 q2 q3 q4 q5 q6 q7 HNX HST
              go_wp2
              go_roundw
              case rel => exact ⟨j + 1, m5, a5, c5, l5, by omega, by go_num, rfl, HM5, HE5, HQ5, HV5, HW6, HO5, F5⟩
              case measure => simp [RowKit.intOf]; omega
            · have hb0 : (er != 0) = true := by simpa using h0
              rw [if_neg h0] at HNX
              clear h0
              go_wp2_with fail
              refine hrp.mono ?_
              rintro e w5 ⟨a5, c5, l5, rfl, sv5, ps5, f5, own5, nw5⟩
              have HEN : Hid (rplA (psOf ls) rs = ([], er)) := by show _ = _; rw [HEV.out, ← HE.out, HNX.out]
              have F5 := FB.trans f5 (S := fun _ => False) (fun i hi e => by have := HO.out i e; omega)
              obtain ⟨m5, hm5⟩ : ∃ m5, m5 = l5.length := ⟨_, rfl⟩
              rw [← hm5]
              clear hrp sv5 own5 nw5 ps5 f5 q0 q1 q2 q3 q4 q5 q6 q7 HNX HST hm5
              go_wp2
              go_ret2
              exact rpl_nilN HEN.out F5
          · obtain rfl : j = n2 := by omega
            have HEN : Hid (rplA (psOf ls) rs = (psOf lq, 0)) := by
              show _ = _
              rw [HEV.out, ← HE.out, List.drop_of_length_le (by have := HN2.out; omega)]; rfl
            have HFIN : Hid (RplOutN w (rplA (psOf ls) rs) (.returned (.tuple #[.slice a' m c', .int .i64 0])) wr) := by
              show RplOutN _ _ _ _
              have hm := HM.out
              subst hm
              rw [HEN.out]
              exact ⟨a', c', lq, rfl, HV.out, rfl, F, HW2.out, HO.out⟩
            go_wp2
            go_ret2
            exact HFIN.out

end Go.Proofs.YtkibbojiflklpaaGreat

/- How a replay begins and numbers that came in. -/
namespace Go.Proofs.YtkibbojiflklpaaGreat
open Go.ChangeShapes Go.WideShapes Go.ChangeAt Go.RowKit Go.Deep

theorem ycellsI : Tryz.prog.cellsOf 3 = 1 := by kernel_rfl
structure Is (w : World) (a : Option Addr) (cap : Nat) (xs : List Int) : Prop where
  le : xs.length ≤ cap
  max : cap ≤ 9223372036854775807
  at_ : xs = [] ∨ ∃ b off, a = some ⟨b, off, none⟩ ∧ b < w.heap.size ∧ ∀ (i : Nat) x, xs[i]? = some x → w.cell? ⟨b, off + i, none⟩ = some (.int .i64 x)
theorem Is.fr {S : Nat → Prop} {w w' : World} {a : Option Addr} {cap : Nat} {xs : List Int} (h : Is w a cap xs) (f : Fr S w w') (hn : ∀ b, b < w.heap.size → ¬ S b) : Is w' a cap xs := by
  refine ⟨h.le, h.max, ?_⟩
  rcases h.at_ with h0 | ⟨b, off, rfl, hb, hc⟩
  · exact .inl h0
  · exact .inr ⟨b, off, rfl, Nat.lt_of_lt_of_le hb f.size, fun i x hx => (f.cell (p := ⟨b, _, none⟩) hb (hn b hb)).trans (hc i x hx)⟩
theorem Is.same {w w' : World} {a : Option Addr} {cap : Nat} {xs : List Int} (h : Is w a cap xs) (f : Fr (fun _ => False) w w') : Is w' a cap xs := h.fr f (fun _ _ f => f)
theorem Is.some {w : World} {a : Option Addr} {cap : Nat} {xs : List Int} (h : Is w a cap xs) (hn : 0 < xs.length) : ∃ b off, a = some ⟨b, off, none⟩ ∧ b < w.heap.size ∧ ∀ (i : Nat) x, xs[i]? = some x → w.cell? ⟨b, off + i, none⟩ = some (.int .i64 x) := by
  rcases h.at_ with h0 | h
  · rw [h0] at hn; simp at hn
  · exact h
theorem Is.nil (w : World) (a : Option Addr) : Is w a 0 [] := ⟨Nat.le_refl _, by omega, .inl rfl⟩
def wfI (x : Int) : Prop := (Lit.int .i64 x).wf = true
theorem wfI.range {x : Int} (h : wfI x) : -9223372036854775808 ≤ x ∧ x ≤ 9223372036854775807 := by
  unfold wfI Lit.wf at h
  simp at h
  have e1 : IntKind.i64.min = -9223372036854775808 := rfl
  have e2 : IntKind.i64.max = 9223372036854775807 := rfl
  omega
theorem ints_open {H : Type} {enc : TypeId × Value → H} {w : World} {fuel len cap : Nat} {a : Option Addr} {d : DataW H} {p : List MemPlace}
    (h : DataW.trod enc Tryz.prog w 0 (fun _ => true) true fuel 31 [.slice a len cap] = some (d, p)) (hz : ∀ z ∈ d.weights Tryz.prog 31, z ≤ reachBytes) :
    ∃ xs : List Int, len = xs.length ∧ xs.length ≤ 17592186043904 ∧ Is w a cap xs ∧ ∀ x ∈ xs, wfI x := by
  rcases open_ints Tryz.underlying31 Tryz.underlying3 ycellsI h with ⟨hcs, hx⟩ | ⟨x, l, c, zs, hcs, _, hl, hm, hlen, hx, hc, hw⟩
  · simp at hcs
    obtain ⟨rfl, rfl, rfl⟩ := hcs
    exact ⟨[], rfl, by simp, Is.nil _ _, fun x h => by cases h⟩
  · simp at hcs
    obtain ⟨rfl, rfl, rfl⟩ := hcs
    simp only [if_true] at hlen
    have hd : d = .slice (lits .i64 (zs.take len)) (lits .i64 (zs.drop len)) := by simpa using congrArg Prod.fst hx
    have htl : (zs.take len).length = len := by rw [List.length_take]; omega
    have hb : Tryz.prog.bytesOf 3 = 8 := by kernel_rfl
    have hlb : len ≤ 17592186043904 := by
      rw [hd] at hz
      simp only [DataW.weights, Tryz.underlying31] at hz
      have h0 := hz _ (List.mem_cons_self ..)
      rw [hb] at h0
      simp [reachBytes, lits] at h0
      omega
    refine ⟨zs.take len, htl.symm, by omega, ⟨by omega, by unfold maxLen at hm; exact hm, ?_⟩, fun y hy => hw y (List.mem_of_mem_take hy)⟩
    by_cases h0 : len = 0
    · exact .inl (by rw [h0]; rfl)
    · have hc0 := hc 0 (by omega)
      obtain ⟨bk, off, k⟩ := x
      have hk : k = none := by
        have : len ≠ 0 := h0
        cases k with
        | none => rfl
        | some k =>
          simp [World.cell?, Addr.add] at hc0
          split at hc0 <;> cases hc0
      subst hk
      refine .inr ⟨bk, off, rfl, ?_, fun i y hy => ?_⟩
      · exact World.block_lt_of_cell? w _ hc0
      · obtain ⟨hi, he⟩ := List.getElem?_eq_some_iff.1 hy
        have hi' : i < zs.length := by omega
        have := hc i hi'
        rw [show zs.getD i 0 = y by rw [List.getD_eq_getElem?_getD, List.getElem?_eq_getElem hi']; simpa using he] at this
        by_cases hi0 : i = 0
        · subst hi0
          simpa [Addr.add] using this
        · simpa [Addr.add, hi0] using this
/-- How a replay begins, that came in. -/
theorem ycellsB : Tryz.prog.cellsOf 44 = 3 := by kernel_rfl
theorem ycellsV : Tryz.prog.cellsOf 24 = 1 := by kernel_rfl
theorem array3 {α : Type} {cs : Array α} (h : cs.size = 3) : ∃ c0 c1 c2, cs = #[c0, c1, c2] := by
  obtain ⟨l⟩ := cs
  match l, h with
  | [c0, c1, c2], _ => exact ⟨c0, c1, c2, rfl⟩
set_option maxRecDepth 100000 in
theorem begun_open {H : Type} {enc : TypeId × Value → H} {w : World} {r : Reach} {b0 : Nat} {v : Value} {d : DataW H} {pl : List MemPlace} (hv : Value.okWide Tryz.prog w r b0 44 v) (h : DataW.Trod enc Tryz.prog w 0 (fun _ => true) true 44 v d pl) (hz : ∀ z ∈ d.weights Tryz.prog 44, z ≤ reachBytes) :
    ∃ (a : Option Addr) (c : Nat) (ls : List Sl) (last wk : Int), v = .agg #[.slice a ls.length c, .int .i64 last, .int .i64 wk] ∧ Slots w a c ls := by
  obtain ⟨cs, rfl, hsz⟩ := okWide_struct Tryz.underlying44 hv
  obtain ⟨c0, c1, c2, rfl⟩ := array3 (hsz.trans ycellsB)
  obtain ⟨fuel, hf⟩ := h
  obtain ⟨xs, m, _, hx, hl, hlen, hfs⟩ := DataW.trod_struct Tryz.underlying44 hf
  match xs, hlen with
  | [y0, y1, y2], _ =>
    have t0 := hfs 0 _ rfl
    have t1 := hfs 1 _ rfl
    have t2 := hfs 2 _ rfl
    simp [Value.cells, ycellsI, ycellsV] at t0 t1 t2
    have hd : d = .agg [y0.1, y1.1, y2.1] := by simpa using congrArg Prod.fst hx
    rw [hd] at hz
    simp only [DataW.weights, Tryz.underlying44] at hz
    have z0 : ∀ z ∈ y0.1.weights Tryz.prog 24, z ≤ reachBytes := fun z h => hz z (DataW.weights_mem_each (j := 0) rfl rfl z h)
    obtain ⟨f, ef, _, _⟩ := DataW.trod_int Tryz.underlying3 t1
    obtain ⟨g, eg, _, _⟩ := DataW.trod_int Tryz.underlying3 t2
    simp only [List.cons.injEq, and_true] at ef eg
    subst ef eg
    have hs : ∃ (a : Option Addr) (n c : Nat), c0 = .slice a n c := by
      rcases open_slice Tryz.underlying24 t0 with ⟨hcs, _⟩ | ⟨x, l, c, m, n, D, Pl, hcs, _⟩
      · simp at hcs; exact ⟨none, 0, 0, hcs⟩
      · simp at hcs; exact ⟨some x, l, c, hcs⟩
    obtain ⟨a, n, c, rfl⟩ := hs
    obtain ⟨ls, rfl, hS⟩ := slots_open (d := y0.1) (p := y0.2) t0 z0
    exact ⟨a, c, ls, f, g, rfl, hS⟩
theorem Has.recsR {w : World} {a : Option Addr} {n c : Nat} {ls : List Rec} (hn : n = ls.length) (h : Has w 8 (.slice a n c) n (ls.flatMap recC)) : Recs w a c ls := by
  subst hn
  obtain ⟨a', c', he, h1, h2⟩ := h.slice
  simp only [Value.slice.injEq, true_and] at he
  obtain ⟨rfl, rfl⟩ := he
  refine ⟨h1, by unfold maxLen at h2; exact h2, ?_⟩
  by_cases h0 : ls.length = 0
  · exact .inl (List.length_eq_zero_iff.1 h0)
  · obtain ⟨g, cap, hv, hg, _⟩ := h.form (by omega)
    simp only [Value.slice.injEq, true_and] at hv
    obtain ⟨rfl, rfl⟩ := hv
    refine .inr ⟨g, 0, rfl, hg, fun i m hm => ?_⟩
    rw [Nat.zero_add]
    exact h.elem recC_length hm
end Go.Proofs.YtkibbojiflklpaaGreat
