
/- The leaves of pages that are a tree. -/
import Derived.Test.YtnckmajfmkkpgaaGreatBZ3
import Derived.Test.YtnckmajfmkkpgaaGreatBB32
namespace Go.Proofs.YtnckmajfmkkpgaaGreat
open Go.RowKit Go.Shelf
attribute [local go_sem] Oper.semAt_some

def chkF : List Spt → List (Int × List Spt) → Bool
  | _, [] => true
  | ab, x :: l => (isRowB x.2 x.1 && belB x.2 ab) && chkF x.2 l
def endF : List Spt → List (Int × List Spt) → List Spt
  | ab, [] => ab
  | _, x :: l => endF x.2 l
theorem chk_app (ab : List Spt) (l m : List (Int × List Spt)) : chkF ab (l ++ m) = (chkF ab l && chkF (endF ab l) m) := by
  induction l generalizing ab with
  | nil => rfl
  | cons x l ih => simp only [List.cons_append, chkF, endF]; rw [ih]; simp [Bool.and_assoc]
theorem end_app (ab : List Spt) (l m : List (Int × List Spt)) : endF ab (l ++ m) = endF (endF ab l) m := by
  induction l generalizing ab with
  | nil => rfl
  | cons x l ih => simp only [List.cons_append, endF]; exact ih x.2
def topF (ls : List Sl) : Int := if hasB ls 1 = true then ((ls[ahead ls 1]?).map (fun s => s.nd.lev)).getD 0 else 0
def lvR (ls : List Sl) : List (Int × List Spt) := rowsF ls (topF ls + 1).toNat 1
def leavesF (ls : List Sl) : Option (List Spt) := if ariB 0 (psOf ls) = true then (if chkF [] (lvR ls) = true then some (endF [] (lvR ls)) else none) else none
theorem rowsF_mem {ls : List Sl} (k : Nat) (x : Int) : ∀ y ∈ rowsF ls k x, ∀ s ∈ y.2, ∃ t ∈ ls, s.nd = t.nd ∧ s.pt = t.pt ∧ s.page = t.page := by
  induction k generalizing x with
  | zero => intro y hy; cases hy
  | succ k ih =>
    intro y hy s hs
    simp only [rowsF, List.mem_cons] at hy
    rcases hy with rfl | hy
    · exact rowS_mem _ _ _ s hs
    · cases hr : rowS ls ls.length x ByteArray.empty with
      | nil => rw [hr] at hy; cases hy
      | cons t r =>
        rw [hr] at hy
        cases hk : t.nd.kids with
        | nil => rw [nxt_leaf _ _ hk] at hy; cases hy
        | cons z zs => rw [nxt_kid _ _ hk] at hy; exact ih z y hy s hs
theorem rowsF_len {ls : List Sl} (k : Nat) (x : Int) : ∀ y ∈ rowsF ls k x, y.2.length ≤ ls.length := by
  induction k generalizing x with
  | zero => intro y hy; cases hy
  | succ k ih =>
    intro y hy
    simp only [rowsF, List.mem_cons] at hy
    rcases hy with rfl | hy
    · exact rowS_len _ _ _ _
    · cases hr : rowS ls ls.length x ByteArray.empty with
      | nil => rw [hr] at hy; cases hy
      | cons t r =>
        rw [hr] at hy
        cases hk : t.nd.kids with
        | nil => rw [nxt_leaf _ _ hk] at hy; cases hy
        | cons z zs => rw [nxt_kid _ _ hk] at hy; exact ih z y hy
theorem end_mem {l : List (Int × List Spt)} : endF [] l = [] ∨ ∃ y ∈ l, y.2 = endF [] l := by
  have key : ∀ (l : List (Int × List Spt)) (ab : List Spt), endF ab l = ab ∨ ∃ y ∈ l, y.2 = endF ab l := by
    intro l
    induction l with
    | nil => intro ab; exact .inl rfl
    | cons x l ih =>
      intro ab
      rcases ih x.2 with h | ⟨y, hy, e⟩
      · exact .inr ⟨x, by simp, by simp [endF, h]⟩
      · exact .inr ⟨y, by simp [hy], e⟩
  exact key l []
/-- What isBelow wants of a node. -/
theorem rt_kids {n : Nd} (r : Rt n) : (∀ y ∈ n.kids, swf y) ∧ n.kids.length ≤ n.keys.length + 1 := by
  by_cases h0 : n.lev = 0
  · have := (r.leaf h0).2.1
    have e := List.eq_nil_of_length_eq_zero this
    rw [e]
    exact ⟨(fun y hy => by cases hy), by simp⟩
  · obtain ⟨h1, _, h3⟩ := r.inner h0
    refine ⟨fun y hy => ?_, by omega⟩
    obtain ⟨i, hi, rfl⟩ := List.getElem_of_mem hy
    have := h3 i hi
    rw [List.getD_eq_getElem?_getD, List.getElem?_eq_getElem hi] at this
    simp at this
    exact swf_of (by omega)
theorem isBelow_any (a a2 : Option Addr) (n c n2 c2 : Nat) (row above : List Spt) (hn : n = row.length) (hn2 : n2 = above.length) (hf : n ≤ 100000) (hp : ∀ s ∈ row, swf s.page) (hq : ∀ s ∈ above, (∀ y ∈ s.nd.kids, swf y) ∧ s.nd.kids.length ≤ s.nd.keys.length + 1) (w : World) (h : Spots w a c row) (h2 : Spots w a2 c2 above) : Calls Tryz.prog 26 #[.slice a n c, .slice a2 n2 c2] w fun e w' => e = .returned (.bool (belB row above)) ∧ Fr (fun _ => False) w w' := by
  cases above with
  | nil => obtain rfl : n2 = 0 := hn2; exact isBelow_none a a2 n c c2 row hn w
  | cons s l => exact isBelow_some a a2 n c n2 c2 row (s :: l) hn hn2 (by rw [hn2]; simp) hf hp hq w h h2
theorem rows_call (a : Option Addr) (n c : Nat) (w : World) : Calls Tryz.prog 24 #[.slice a n c] w fun e w' => e = .returned (.func (.func 41) #[] #[.pointer (some ⟨w.heap.size, 0, none⟩)]) ∧ w' = w.alloc (.cells #[.slice a n c] 47) := by
  go_enter Tryz.func24, Tryz.ntmps24
  go_wp2
  go_ret
  exact ⟨rfl, rfl⟩
/-- A row in new memory. -/
structure RowM (W : World) (lo : Nat) (a : Option Addr) (cap : Nat) (sp : List Spt) : Prop where
  le : sp.length ≤ cap
  max : cap ≤ 9223372036854775807
  at_ : sp = [] ∨ ∃ b off, a = some ⟨b, off, none⟩ ∧ b < W.heap.size ∧ lo ≤ b ∧ ∀ i s, sp[i]? = some s → W.rangeAt b (off + i * 9) (spC s)
theorem RowM.fr {S : Nat → Prop} {W W' : World} {lo : Nat} {a : Option Addr} {cap : Nat} {sp : List Spt} (h : RowM W lo a cap sp) (f : Fr S W W') (hS : ∀ k, lo ≤ k → ¬ S k) : RowM W' lo a cap sp := by
  refine ⟨h.le, h.max, ?_⟩
  rcases h.at_ with h0 | ⟨b, off, rfl, hb, hl, hc⟩
  · exact .inl h0
  · exact .inr ⟨b, off, rfl, Nat.lt_of_lt_of_le hb f.size, hl, fun i r hr => range_fr (hc i r hr) f (hS b hl)⟩
theorem RowM.spots {W : World} {lo : Nat} {a : Option Addr} {cap : Nat} {sp : List Spt} (h : RowM W lo a cap sp) (hd : ∀ s ∈ sp, Nod W s.nd s.pt) : Spots W a cap sp := by
  refine ⟨h.le, h.max, ?_, hd⟩
  rcases h.at_ with h0 | ⟨b, off, rfl, hb, _, hc⟩
  · exact .inl h0
  · exact .inr ⟨b, off, rfl, hb, hc⟩
theorem RowM.nil (W : World) (lo : Nat) : RowM W lo none 0 [] := ⟨Nat.le_refl _, by omega, .inl rfl⟩
theorem Has.rowM {W : World} {lo : Nat} {a : Option Addr} {n c : Nat} {sp : List Spt} (hn : n = sp.length) (h : Has W 9 (.slice a n c) n (sp.flatMap spC)) (hl : ∀ g, (Value.slice a n c).ownBlock = some g → lo ≤ g) (hx : ∀ k cs t f, (k = lo ∨ k = lo + 1) → W.heap[k]? ≠ some (.cells cs t f)) : RowM W (lo + 2) a c sp := by
  subst hn
  obtain ⟨a', c', he, h1, h2⟩ := h.slice
  simp only [Value.slice.injEq, true_and] at he
  obtain ⟨rfl, rfl⟩ := he
  refine ⟨h1, by unfold maxLen at h2; exact h2, ?_⟩
  by_cases h0 : sp.length = 0
  · exact .inl (List.length_eq_zero_iff.1 h0)
  · obtain ⟨g, cap, hv, hg, _⟩ := h.form (by omega)
    simp only [Value.slice.injEq, true_and] at hv
    obtain ⟨rfl, rfl⟩ := hv
    have hlo := hl g rfl
    obtain ⟨s, hs⟩ : ∃ s, sp[0]? = some s := ⟨_, List.getElem?_eq_getElem (by omega)⟩
    have hc := (h.elem spC_length hs) 0 _ rfl
    obtain ⟨o, ho, hoc⟩ := cells_of_cell hc
    have hne : ∀ k, (k = lo ∨ k = lo + 1) → g ≠ k := fun k hk e => by
      subst e
      cases o <;> simp [Obj.isCells] at hoc
      exact hx g _ _ _ hk ho
    have h3 := hne lo (.inl rfl)
    have h4 := hne (lo + 1) (.inr rfl)
    refine .inr ⟨g, 0, rfl, hg, by omega, fun i m hm => ?_⟩
    rw [Nat.zero_add]
    exact h.elem spC_length hm
/-- What leaves holds between two rounds. -/
structure LvI (w : World) (B lo : Nat) (L : List (Int × List Spt)) (pre : List Lvl) (W : World) : Prop where
  pre_ : pre.map lvK <+: L
  chk : chkF [] (pre.map lvK) = true
  fr : Fr (fun _ => False) w W
  b2 : W.heap[w.heap.size]? = some (.cells #[.slice none 0 0] 45 (0, 0))
  b3 : W.heap[w.heap.size + 1]? = some (.cells #[.bool false] 4 (0, 0))
  b4 : ∃ ab ac m, m = (endF [] (pre.map lvK)).length ∧ W.heap[B]? = some (.cells #[.slice ab m ac] 45 (0, 0)) ∧ RowM W (lo + 2) ab ac (endF [] (pre.map lvK))
/-- What it holds where a round has left. -/
structure LvX (w : World) (L : List (Int × List Spt)) (c : Code) (pre : List Lvl) (W : World) : Prop where
  ret : c = .ret
  pre_ : pre.map lvK <+: L
  chk : chkF [] (pre.map lvK) = false
  fr : Fr (fun _ => False) w W
  b2 : W.heap[w.heap.size]? = some (.cells #[.slice none 0 0] 45 (0, 0))
  b3 : W.heap[w.heap.size + 1]? = some (.cells #[.bool false] 4 (0, 0))
theorem LvI.on {w W W' : World} {B lo : Nat} {L : List (Int × List Spt)} {pre : List Lvl} {S : Nat → Prop} (h : LvI w B lo L pre W) (f : Fr S W W') (h2 : ¬ S w.heap.size) (h3 : ¬ S (w.heap.size + 1)) (h4 : ¬ S B) (hw : ∀ k, k < w.heap.size → ¬ S k) (hl : ∀ k, lo + 2 ≤ k → ¬ S k) : LvI w B lo L pre W' := by
  obtain ⟨ab, ac, m, hm, hb, hr⟩ := h.b4
  exact ⟨h.pre_, h.chk, h.fr.trans f (fun i hi e => (hw i hi e).elim), f.blk h.b2 h2, f.blk h.b3 h3, ab, ac, m, hm, f.blk hb h4, hr.fr f hl⟩
theorem chk_snoc {pre : List Lvl} {x : Lvl} (h : chkF [] (pre.map lvK) = true) : chkF [] ((pre ++ [x]).map lvK) = (isRowB x.row x.lev && belB x.row (endF [] (pre.map lvK))) := by
  rw [List.map_append, chk_app, h, Bool.true_and]
  simp [chkF, lvK]
theorem end_snoc (pre : List Lvl) (x : Lvl) : endF [] ((pre ++ [x]).map lvK) = x.row := by
  rw [List.map_append, end_app]; rfl
/-- What leaves tells. -/
def LvOut (ls : List Sl) (w : World) (e : Ending) (w' : World) : Prop := Fr (fun _ => False) w w' ∧ ((leavesF ls = none ∧ e = .returned (.tuple #[.slice none 0 0, .bool false])) ∨ ∃ sp a n c, leavesF ls = some sp ∧ n = sp.length ∧ e = .returned (.tuple #[.slice a n c, .bool true]) ∧ Spots w' a c sp ∧ ∀ s ∈ sp, ∃ t ∈ ls, s.nd = t.nd ∧ s.pt = t.pt)
set_option maxRecDepth 100000 in
set_option maxHeartbeats 4000000 in
theorem leaves_any (a : Option Addr) (n c : Nat) (ls : List Sl) (hn : n = ls.length) (w : World) (h : Slots w a c ls) : Calls Tryz.prog 13 #[.slice a n c] w fun e w' => LvOut ls w e w' := by
  have f0 : Fr (fun _ => False) w ((w.alloc (.cells #[.slice none 0 0] 45)).alloc (.cells #[.bool false] 4)) := ((Fr.refl _ _).alloc _).alloc _
  have har := bareRight_any a n c ls hn _ (h.same f0)
  have hB2 : ((w.alloc (.cells #[.slice none 0 0] 45)).alloc (.cells #[.bool false] 4)).heap[w.heap.size]? = some (.cells #[.slice none 0 0] 45 (0, 0)) := (Fr.box (w.alloc (.cells #[.slice none 0 0] 45)) (.cells #[.bool false] 4)).blk (heap_alloc_new w _) (fun f => f)
  have hB3 : ((w.alloc (.cells #[.slice none 0 0] 45)).alloc (.cells #[.bool false] 4)).heap[w.heap.size + 1]? = some (.cells #[.bool false] 4 (0, 0)) := by
    have := heap_alloc_new (w.alloc (.cells #[.slice none 0 0] 45)) (.cells #[.bool false] 4)
    rwa [show (w.alloc (.cells #[.slice none 0 0] 45)).heap.size = w.heap.size + 1 by simp] at this
  have hsz : ((w.alloc (.cells #[.slice none 0 0] 45)).alloc (.cells #[.bool false] 4)).heap.size = w.heap.size + 2 := by simp
  cases hok : ariB 0 (psOf ls)
  · rw [hok] at har
    have HLF : Hid (leavesF ls = none) := by show _ = _; unfold leavesF; rw [hok]; rfl
    clear hok h hn
    refine (callsIn_wide (n := 0)).1 ?_
    refine callsIn_of_wp_marks Tryz.func13 rfl trivial ?_ rfl
    simp only [Tryz.ntmps13, List.size_toArray, List.length_cons, List.length_nil, Nat.reduceAdd, Nat.reduceSub, Array.replicate_succ, Array.replicate_zero, List.push_toArray, List.append_toArray, List.nil_append, List.cons_append]
    gi_wp2
    refine ⟨trivial, rfl, (callsIn_wide.2 har).mono ?_⟩
    rintro e w1 ⟨rfl, f1⟩
    obtain ⟨c0, c1⟩ := one_cells (f1.blk hB2 (fun f => f))
    obtain ⟨d0, d1⟩ := one_cells (f1.blk hB3 (fun f => f))
    have fs : Fr (fun k => k = w.heap.size ∨ k = w.heap.size + 1) w1 ((w1.setCell ⟨w.heap.size, 0, none⟩ (.slice none 0 0)).setCell ⟨w.heap.size + 1, 0, none⟩ (.bool false)) := ((Fr.refl (fun k => k = w.heap.size ∨ k = w.heap.size + 1) w1).setCell (p := ⟨w.heap.size, 0, none⟩) (fun _ => .inl rfl) _).setCell (p := ⟨w.heap.size + 1, 0, none⟩) (fun _ => .inr rfl) _
    have hb2 := one_setCell (f1.blk hB2 (fun f => f)) (.slice none 0 0)
    have hb3 := one_setCell (((Fr.refl (fun k => k = w.heap.size) w1).setCell (p := ⟨w.heap.size, 0, none⟩) (fun _ => rfl) (.slice none 0 0)).blk (f1.blk hB3 (fun f => f)) (by omega)) (.bool false)
    have hb2' := ((Fr.refl (fun k => k = w.heap.size + 1) _).setCell (p := ⟨w.heap.size + 1, 0, none⟩) (fun _ => rfl) (.bool false)).blk hb2 (by omega)
    have fff : Fr (fun _ => False) w ((w1.setCell ⟨w.heap.size, 0, none⟩ (.slice none 0 0)).setCell ⟨w.heap.size + 1, 0, none⟩ (.bool false)) := (f0.seq' f1).trans fs (fun i hi e => by omega)
    gi_wp2
    generalize (w1.setCell ⟨w.heap.size, 0, none⟩ (.slice none 0 0)).setCell ⟨w.heap.size + 1, 0, none⟩ (.bool false) = Wf at *
    obtain ⟨g0, _⟩ := one_cells hb2'
    obtain ⟨g1, _⟩ := one_cells hb3
    exact ⟨.tuple #[.slice none 0 0, .bool false], by simp [results, Tryz.results13, go_sem, g0, g1], fff, .inl ⟨HLF.out, rfl⟩⟩
  · rw [hok] at har
    have hps := ari_psok hok
    have hfew := hps.few
    rw [ps_length] at hfew
    have hrise := hps.rise
    have hri := (ari_ok 0 _ hok).2.2
    have HRT : Hid (∀ t ∈ ls, Rt t.nd) := fun t ht => (right_iff _).1 (hri (t.page, t.nd) (List.mem_map.2 ⟨t, ht, rfl⟩))
    have HPG : Hid (∀ t ∈ ls, swf t.page) := fun t ht => by
      have := hps.2 t.page (List.mem_map.2 ⟨(t.page, t.nd), List.mem_map.2 ⟨t, ht, rfl⟩, rfl⟩)
      exact swf_of (by omega)
    obtain ⟨top, htop, htop2⟩ : ∃ top : Nat, topF ls = (top : Int) - 1 ∧ top ≤ 21 := by
      unfold topF
      cases hh : hasB ls 1
      · exact ⟨1, by simp, by omega⟩
      · obtain ⟨s, hs, _⟩ := has_some hh
        have r := HRT.out s (List.mem_of_getElem? hs)
        have h1 := r.lev0
        have h2 := r.lev1
        exact ⟨(s.nd.lev + 1).toNat, by rw [hs]; simp; omega, by omega⟩
    obtain ⟨L, hL⟩ : ∃ L, L = rowsF ls top 1 := ⟨_, rfl⟩
    have HLF : Hid (leavesF ls = if chkF [] L = true then some (endF [] L) else none) := by
      show _ = _
      unfold leavesF lvR
      rw [hok, if_pos rfl, htop, show ((top : Int) - 1 + 1).toNat = top by omega, ← hL]
    have HMEM : Hid (∀ y ∈ L, ∀ s ∈ y.2, ∃ t ∈ ls, s.nd = t.nd ∧ s.pt = t.pt ∧ s.page = t.page) := by rw [hL]; exact rowsF_mem _ _
    have HLEN : Hid (∀ y ∈ L, y.2.length ≤ 4096) := fun y hy => by rw [hL] at hy; have := rowsF_len _ _ y hy; omega
    have HSL : Hid (∀ W, Fr (fun _ => False) w W → Slots W a c ls) := fun W f => h.same f
    have HF0 : Hid (Fr (fun _ => False) w ((w.alloc (.cells #[.slice none 0 0] 45)).alloc (.cells #[.bool false] 4))) := f0
    have HIT := fun Bl R W hS hcl => rows_iter a n c ls hn (by omega) hrise top htop2 Bl R W htop hS hcl
    rw [← hL] at HIT
    clear hok h hn hps hfew hrise hri htop htop2 hL f0
    refine (callsIn_wide (n := 0)).1 ?_
    refine callsIn_of_wp_marks Tryz.func13 rfl trivial ?_ rfl
    simp only [Tryz.ntmps13, List.size_toArray, List.length_cons, List.length_nil, Nat.reduceAdd, Nat.reduceSub, Array.replicate_succ, Array.replicate_zero, List.push_toArray, List.append_toArray, List.nil_append, List.cons_append]
    gi_wp2
    refine ⟨trivial, rfl, (callsIn_wide.2 har).mono ?_⟩
    rintro e w1 ⟨rfl, f1⟩
    have hz1 := f1.size
    rw [hsz] at hz1
    gi_wp2
    refine ⟨trivial, rfl, (callsIn_wide.2 (rows_call a n c _)).mono ?_⟩
    rintro e w' ⟨rfl, rfl⟩
    gi_wp2
    have fa : Fr (fun _ => False) w1 ((w1.alloc (.cells #[.slice none 0 0] 45)).alloc (.cells #[.slice a n c] 47)) := ((Fr.refl _ _).alloc _).alloc _
    have hb4 : ((w1.alloc (.cells #[.slice none 0 0] 45)).alloc (.cells #[.slice a n c] 47)).heap[w1.heap.size]? = some (.cells #[.slice none 0 0] 45 (0, 0)) := (Fr.box (w1.alloc (.cells #[.slice none 0 0] 45)) (.cells #[.slice a n c] 47)).blk (heap_alloc_new w1 _) (fun f => f)
    have hbl : ((w1.alloc (.cells #[.slice none 0 0] 45)).alloc (.cells #[.slice a n c] 47)).heap[w1.heap.size + 1]? = some (.cells #[.slice a n c] 47 (0, 0)) := by
      have := heap_alloc_new (w1.alloc (.cells #[.slice none 0 0] 45)) (.cells #[.slice a n c] 47)
      rwa [show (w1.alloc (.cells #[.slice none 0 0] 45)).heap.size = w1.heap.size + 1 by simp] at this
    have hs2 : ((w1.alloc (.cells #[.slice none 0 0] 45)).alloc (.cells #[.slice a n c] 47)).heap.size = w1.heap.size + 2 := by simp
    have fV := (HF0.out.seq' f1).seq' fa
    have hv2 := fa.blk (f1.blk hB2 (fun f => f)) (fun f => f)
    have hv3 := fa.blk (f1.blk hB3 (fun f => f)) (fun f => f)
    generalize (w1.alloc (.cells #[.slice none 0 0] 45)).alloc (.cells #[.slice a n c] 47) = V at *
    have keep : ∀ {W : World}, Fr (fun k => ¬ (fun k => k < w.heap.size ∨ k = w1.heap.size + 1) k) V W → Fr (fun _ => False) w W := fun f => fV.trans f (fun i hi e => e (.inl hi))
    have hit := HIT (w1.heap.size + 1) (fun k => k < w.heap.size ∨ k = w1.heap.size + 1) V (fun W f => HSL.out _ (keep f)) (fun W f => (one_cells (f.blk hbl (fun e => e (.inr rfl)))).1)
    refine over (gf := 41) (lb := #[.pointer (some ⟨w1.heap.size + 1, 0, none⟩)]) rfl (enters_of Tryz.func41 (by kernel_rfl) rfl) hit (Fr.refl _ _) (fun _ => rfl)
      (fun _ k => k = w.heap.size ∨ k = w.heap.size + 1 ∨ k = w1.heap.size) (LvI w w1.heap.size V.heap.size L) (LvX w L) ?st ?stx ?ol ?bk ?ap ?h0 ?round ?done ?stop
    case st => intro pre A B hI f; exact hI.on f (by omega) (by omega) (by omega) (fun k hk => by omega) (fun k hk => by omega)
    case stx => intro cd pre A B hX f; exact ⟨hX.ret, hX.pre_, hX.chk, hX.fr.trans f (fun i hi e => by omega), f.blk hX.b2 (by omega), f.blk hX.b3 (by omega)⟩
    case ol =>
      rintro pre A k hI (rfl | rfl | rfl)
      · exact lt_of_block hI.b2
      · exact lt_of_block hI.b3
      · obtain ⟨_, _, _, _, hb, _⟩ := hI.b4; exact lt_of_block hb
    case bk => intro pre A B k _ _ h; exact h
    case ap => rintro pre A k _ (rfl | rfl | rfl) <;> exact ⟨by omega, by omega, by omega⟩
    case h0 => exact ⟨List.nil_prefix, rfl, fV, hv2, hv3, none, 0, 0, rfl, hb4, RowM.nil _ _⟩
    case round =>
      rintro pre ⟨lv, row, xa, xc⟩ W hI ⟨hpx, hH, hown⟩ hz hnc
      dsimp only at hH hown
      have hRM := hH.rowM rfl hown hnc
      clear hnc hH hown
      gi_wp2
      refine ⟨Fr.refl _ _, fun W2 f2 => ?_⟩
      have hI2 := hI.on f2 (by omega) (by omega) (by omega) (fun k hk => by omega) (fun k hk => by omega)
      have hR2 := hRM.fr f2 (fun k hk e => by omega)
      obtain ⟨ab, ac, m, hm, hb, hRa⟩ := hI2.b4
      have hmx : (lv, row) ∈ L := hpx.subset (by simp [lvK])
      have hSW := HSL.out _ hI2.fr
      have hnr : ∀ s ∈ row, Nod W2 s.nd s.pt := fun s hs => by
        obtain ⟨t, ht, e1, e2, _⟩ := HMEM.out _ hmx s hs
        rw [e1, e2]; exact hSW.nod t ht
      have hma : ∀ s ∈ endF [] (pre.map lvK), ∃ t ∈ ls, s.nd = t.nd ∧ s.pt = t.pt ∧ s.page = t.page := fun s hs => by
        rcases end_mem (l := pre.map lvK) with e | ⟨y, hy, e⟩
        · rw [e] at hs; cases hs
        · rw [← e] at hs; exact HMEM.out y (hI2.pre_.subset hy) s hs
      have hna : ∀ s ∈ endF [] (pre.map lvK), Nod W2 s.nd s.pt := fun s hs => by
        obtain ⟨t, ht, e1, e2, _⟩ := hma s hs
        rw [e1, e2]; exact hSW.nod t ht
      have hsr := hR2.spots hnr
      have hsa := hRa.spots hna
      have hir := isRow_any xa row.length xc row rfl lv W2 hsr
      have hib := fun W (f : Fr (fun _ => False) W2 W) => isBelow_any xa ab row.length xc m ac row (endF [] (pre.map lvK)) rfl hm (by have := HLEN.out _ hmx; dsimp only at this; omega) (fun s hs => by obtain ⟨t, ht, _, _, e⟩ := HMEM.out _ hmx s hs; rw [e]; exact HPG.out t ht) (fun s hs => by obtain ⟨t, ht, e, _⟩ := hma s hs; rw [e]; exact rt_kids (HRT.out t ht)) W (hsr.same f) (hsa.same f)
      have HCHK0 := chk_snoc (x := ⟨lv, row, xa, xc⟩) hI2.chk
      dsimp only at HCHK0
      have HPX : Hid ((pre ++ [Lvl.mk lv row xa xc]).map lvK <+: L) := hpx
      obtain ⟨b1, h1⟩ : ∃ b, b = isRowB row lv := ⟨_, rfl⟩
      obtain ⟨b2, h2⟩ : ∃ b, b = belB row (endF [] (pre.map lvK)) := ⟨_, rfl⟩
      rw [← h1] at hir
      rw [← h2] at hib
      rw [← h1, ← h2] at HCHK0
      have HCHK : Hid (chkF [] ((pre ++ [Lvl.mk lv row xa xc]).map lvK) = (b1 && b2)) := HCHK0
      have HR2 : Hid (RowM W2 (V.heap.size + 2) xa xc row) := hR2
      obtain ⟨nr, hnrl⟩ : ∃ k, k = row.length := ⟨_, rfl⟩
      rw [← hnrl] at hir hib ⊢
      have HNR : Hid (nr = row.length) := hnrl
      clear hI hRM hpx hmx hSW hnr hma hna hsr hsa HCHK0 h1 h2 hR2 hnrl hRa hm
      gi_wp2
      refine ⟨trivial, rfl, (CallsIn.inRound _ (callsIn_wide.2 hir)).mono ?_⟩
      rintro e w3 ⟨rfl, f3⟩
      cases b1
      · have hx2 := f3.blk hI2.b2 (fun f => f)
        have hx3 := f3.blk hI2.b3 (fun f => f)
        obtain ⟨c0, c1⟩ := one_cells hx2
        obtain ⟨d0, d1⟩ := one_cells hx3
        have fs : Fr (fun k => k = w.heap.size ∨ k = w.heap.size + 1 ∨ k = w1.heap.size) w3 ((w3.setCell ⟨w.heap.size, 0, none⟩ (.slice none 0 0)).setCell ⟨w.heap.size + 1, 0, none⟩ (.bool false)) := ((Fr.refl (fun k => k = w.heap.size ∨ k = w.heap.size + 1 ∨ k = w1.heap.size) w3).setCell (p := ⟨w.heap.size, 0, none⟩) (fun _ => .inl rfl) _).setCell (p := ⟨w.heap.size + 1, 0, none⟩) (fun _ => .inr (.inl rfl)) _
        have hb2 := one_setCell hx2 (.slice none 0 0)
        have hb3 := one_setCell (((Fr.refl (fun k => k = w.heap.size) w3).setCell (p := ⟨w.heap.size, 0, none⟩) (fun _ => rfl) (.slice none 0 0)).blk hx3 (by omega)) (.bool false)
        have hb2' := ((Fr.refl (fun k => k = w.heap.size + 1) _).setCell (p := ⟨w.heap.size + 1, 0, none⟩) (fun _ => rfl) (.bool false)).blk hb2 (by omega)
        have FX : Fr (fun k => k = w.heap.size ∨ k = w.heap.size + 1 ∨ k = w1.heap.size) W2 ((w3.setCell ⟨w.heap.size, 0, none⟩ (.slice none 0 0)).setCell ⟨w.heap.size + 1, 0, none⟩ (.bool false)) := (f3.widen (fun _ f => f.elim)).trans fs (fun _ _ e => e)
        gi_wp2
        refine ⟨trivial, ?_⟩
        gi_wp2
        exact ⟨FX, rfl, HPX.out, HCHK.out, hI2.fr.trans FX (fun i hi e => by omega), hb2', hb3⟩
      · obtain ⟨p0, _⟩ := one_cells (f3.blk hb (fun f => f))
        gi_wp2
        refine ⟨trivial, rfl, (CallsIn.inRound _ (callsIn_wide.2 (hib _ f3))).mono ?_⟩
        rintro e w4 ⟨rfl, f4⟩
        have F4 := f3.seq' f4
        cases b2
        · have hx2 := F4.blk hI2.b2 (fun f => f)
          have hx3 := F4.blk hI2.b3 (fun f => f)
          obtain ⟨c0, c1⟩ := one_cells hx2
          obtain ⟨d0, d1⟩ := one_cells hx3
          have fs : Fr (fun k => k = w.heap.size ∨ k = w.heap.size + 1 ∨ k = w1.heap.size) w4 ((w4.setCell ⟨w.heap.size, 0, none⟩ (.slice none 0 0)).setCell ⟨w.heap.size + 1, 0, none⟩ (.bool false)) := ((Fr.refl (fun k => k = w.heap.size ∨ k = w.heap.size + 1 ∨ k = w1.heap.size) w4).setCell (p := ⟨w.heap.size, 0, none⟩) (fun _ => .inl rfl) _).setCell (p := ⟨w.heap.size + 1, 0, none⟩) (fun _ => .inr (.inl rfl)) _
          have hb2 := one_setCell hx2 (.slice none 0 0)
          have hb3 := one_setCell (((Fr.refl (fun k => k = w.heap.size) w4).setCell (p := ⟨w.heap.size, 0, none⟩) (fun _ => rfl) (.slice none 0 0)).blk hx3 (by omega)) (.bool false)
          have hb2' := ((Fr.refl (fun k => k = w.heap.size + 1) _).setCell (p := ⟨w.heap.size + 1, 0, none⟩) (fun _ => rfl) (.bool false)).blk hb2 (by omega)
          have FX : Fr (fun k => k = w.heap.size ∨ k = w.heap.size + 1 ∨ k = w1.heap.size) W2 ((w4.setCell ⟨w.heap.size, 0, none⟩ (.slice none 0 0)).setCell ⟨w.heap.size + 1, 0, none⟩ (.bool false)) := (F4.widen (fun _ f => f.elim)).trans fs (fun _ _ e => e)
          gi_wp2
          exact ⟨FX, rfl, HPX.out, HCHK.out, hI2.fr.trans FX (fun i hi e => by omega), hb2', hb3⟩
        · have hx4 := F4.blk hb (fun f => f)
          obtain ⟨c0, c1⟩ := one_cells hx4
          have fs : Fr (fun k => k = w1.heap.size) w4 (w4.setCell ⟨w1.heap.size, 0, none⟩ (.slice xa nr xc)) := (Fr.refl (fun k => k = w1.heap.size) w4).setCell (p := ⟨w1.heap.size, 0, none⟩) (fun _ => rfl) _
          have hbn := one_setCell hx4 (.slice xa nr xc)
          have FX : Fr (fun k => k = w.heap.size ∨ k = w.heap.size + 1 ∨ k = w1.heap.size) W2 (w4.setCell ⟨w1.heap.size, 0, none⟩ (.slice xa nr xc)) := (F4.widen (fun _ f => f.elim)).trans fs (fun _ _ e => .inr (.inr e))
          gi_wp2
          refine ⟨FX, fun k h => .inl h, HPX.out, HCHK.out, hI2.fr.trans FX (fun i hi e => by omega), fs.blk (F4.blk hI2.b2 (fun f => f)) (by omega), fs.blk (F4.blk hI2.b3 (fun f => f)) (by omega), xa, xc, nr, ?_, hbn, ?_⟩
          · rw [end_snoc]; exact HNR.out
          · rw [end_snoc]
            have hfin := (HR2.out.fr F4 (fun _ _ f => f)).fr fs (fun k hk e => by omega)
            rw [hs2] at hfin
            exact hfin
    case done =>
      rintro xs W hS hI hK
      obtain ⟨ab, ac, m, hm, hb, hRM⟩ := hI.b4
      have hchk := hI.chk
      rw [hS] at hm hRM hchk
      obtain ⟨p0, _⟩ := one_cells hb
      obtain ⟨c0, c1⟩ := one_cells hI.b2
      obtain ⟨d0, d1⟩ := one_cells hI.b3
      have hm2 : ∀ s ∈ endF [] L, ∃ t ∈ ls, s.nd = t.nd ∧ s.pt = t.pt ∧ s.page = t.page := fun s hs => by
        rcases end_mem (l := L) with e | ⟨y, hy, e⟩
        · rw [e] at hs; cases hs
        · rw [← e] at hs; exact HMEM.out y hy s hs
      have fs : Fr (fun k => k = w.heap.size ∨ k = w.heap.size + 1) W ((W.setCell ⟨w.heap.size, 0, none⟩ (.slice ab m ac)).setCell ⟨w.heap.size + 1, 0, none⟩ (.bool true)) := ((Fr.refl (fun k => k = w.heap.size ∨ k = w.heap.size + 1) W).setCell (p := ⟨w.heap.size, 0, none⟩) (fun _ => .inl rfl) _).setCell (p := ⟨w.heap.size + 1, 0, none⟩) (fun _ => .inr rfl) _
      have hb2 := one_setCell hI.b2 (.slice ab m ac)
      have hb3 := one_setCell (((Fr.refl (fun k => k = w.heap.size) W).setCell (p := ⟨w.heap.size, 0, none⟩) (fun _ => rfl) (.slice ab m ac)).blk hI.b3 (by omega)) (.bool true)
      have hb2' := ((Fr.refl (fun k => k = w.heap.size + 1) _).setCell (p := ⟨w.heap.size + 1, 0, none⟩) (fun _ => rfl) (.bool true)).blk hb2 (by omega)
      have hK2 := fs.blk hK (by omega)
      have fp := Fr.put ((W.setCell ⟨w.heap.size, 0, none⟩ (.slice ab m ac)).setCell ⟨w.heap.size + 1, 0, none⟩ (.bool true)) V.heap.size (.deferred none)
      have fE : Fr (fun _ => False) w (((W.setCell ⟨w.heap.size, 0, none⟩ (.slice ab m ac)).setCell ⟨w.heap.size + 1, 0, none⟩ (.bool true)).putObj V.heap.size (.deferred none)) := (hI.fr.trans fs (fun i hi e => by omega)).trans fp (fun i hi e => by omega)
      have hRE := (hRM.fr fs (fun k hk e => by omega)).fr fp (fun k hk e => by omega)
      obtain ⟨g0, _⟩ := one_cells (fp.blk hb2' (by omega))
      obtain ⟨g1, _⟩ := one_cells (fp.blk hb3 (by omega))
      have hev : leavesF ls = some (endF [] L) := by rw [HLF.out, if_pos hchk]
      have HM : Hid (m = (endF [] L).length) := hm
      clear hs2 hm
      gi_wp2
      refine ⟨by simp, .inl ⟨_, _, rfl, run_takeDeferred hK2, ?_⟩⟩
      generalize ((W.setCell ⟨w.heap.size, 0, none⟩ (.slice ab m ac)).setCell ⟨w.heap.size + 1, 0, none⟩ (.bool true)).putObj V.heap.size (.deferred none) = Wf at *
      exact ⟨.tuple #[.slice ab m ac, .bool true], by simp [results, Tryz.results13, go_sem, g0, g1], fE, .inr ⟨endF [] L, ab, m, ac, hev, HM.out, rfl, hRE.spots (fun s hs => by obtain ⟨t, ht, e1, e2, _⟩ := hm2 s hs; rw [e1, e2]; exact (HSL.out _ fE).nod t ht), fun s hs => by obtain ⟨t, ht, e1, e2, _⟩ := hm2 s hs; exact ⟨t, ht, e1, e2⟩⟩⟩
    case stop =>
      rintro cd pre W hX hK
      obtain rfl := hX.ret
      have fp := Fr.put W V.heap.size (.deferred none)
      have fE := hX.fr.trans fp (S := fun _ => False) (fun i hi e => by omega)
      obtain ⟨g0, _⟩ := one_cells (fp.blk hX.b2 (by omega))
      obtain ⟨g1, _⟩ := one_cells (fp.blk hX.b3 (by omega))
      have hev : leavesF ls = none := by
        obtain ⟨r, hr⟩ := hX.pre_
        rw [HLF.out, ← hr, chk_app, hX.chk]; rfl
      clear hs2
      gi_wp2
      refine ⟨by simp, .inl ⟨_, _, rfl, run_takeDeferred hK, ?_⟩⟩
      exact ⟨.tuple #[.slice none 0 0, .bool false], by simp [results, Tryz.results13, go_sem, g0, g1], fE, .inl ⟨hev, rfl⟩⟩
end Go.Proofs.YtnckmajfmkkpgaaGreat
