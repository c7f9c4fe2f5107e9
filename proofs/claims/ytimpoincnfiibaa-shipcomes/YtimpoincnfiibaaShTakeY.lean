
/- What is taken, where what was sent fits. -/
import Derived.Test.YtimpoincnfiibaaShTake
namespace Go.Proofs.Ytimpoincnfiibaa
open Go.RowKit Go.Shelf
attribute [local go_sem] Oper.semAt_some

theorem recs_fr {S : Nat → Prop} {w w' : World} {a : Option Addr} {cap : Nat} {ls : List Rec} (h : Recs w a cap ls) (f : Fr S w w') (hn : ∀ k b o, a = some ⟨b, o, none⟩ → ls ≠ [] → S k → k ≠ b) : Recs w' a cap ls := by
  refine ⟨h.le, h.max, ?_⟩
  rcases h.at_ with h0 | ⟨b, off, rfl, hb, hc⟩
  · exact .inl h0
  · by_cases h0 : ls = []
    · exact .inl h0
    · exact .inr ⟨b, off, rfl, Nat.lt_of_lt_of_le hb f.size, fun i r hr => range_fr (hc i r hr) f (fun e => hn b b off rfl h0 e rfl)⟩
/-- The block in which a log's records lie, now. -/
def OwnAt (W : World) (lb k : Nat) : Prop := ∃ rv fl, W.heap[lb]? = some (.cells #[rv, .int .i64 fl] 52 (0, 0)) ∧ rv.ownBlock = some k
/-- What a round may write. -/
def TkT (lb s L : Nat) (W : World) (k : Nat) : Prop := k = lb ∨ OwnAt W lb k ∨ k = L ∨ k = L + 1 ∨ (s + 2 ≤ k ∧ k < s + 5)
theorem own_lg {W : World} {lb : Nat} {rv : Value} {ls : List Rec} {fl : Int} (h : Lg W lb rv ls fl) {k : Nat} : OwnAt W lb k ↔ rv.ownBlock = some k := by
  constructor
  · rintro ⟨rv', fl', h1, h2⟩
    rw [h.box] at h1
    simp only [Option.some.injEq, Obj.cells.injEq, Array.mk.injEq, List.cons.injEq] at h1
    rw [h1.1.1]; exact h2
  · intro e; exact ⟨rv, fl, h.box, e⟩
structure TkI (w : World) (lb : Nat) (rv : Value) (p me ml : Value) (tot : List Rec × Int × Bool × Int) (rs : List Rec) (L B : Nat) (pre : List Rec) (W : World) : Prop where
  pre_ : pre <+: rs
  st : ∃ ls last cut rv', tot = tkR ls last cut (rs.drop pre.length) ∧ Wl ls ∧ Lg W lb rv' ls 0 ∧ (rv'.ownBlock = rv.ownBlock ∨ ∃ g, rv'.ownBlock = some g ∧ B ≤ g) ∧ One W L 3 (.int .i64 last) ∧ One W (L + 1) 4 (.bool cut)
  fr : Fr (lgS lb rv) w W
  bx : Bxs w W p me ml
structure TkX (w : World) (lb : Nat) (rv : Value) (tot : List Rec × Int × Bool × Int) (B : Nat) (c : Code) (W : World) : Prop where
  ret : c = .ret
  st : ∃ ls e rv', tot = (ls, 0, false, e) ∧ Lg W lb rv' ls 0 ∧ (rv'.ownBlock = rv.ownBlock ∨ ∃ g, rv'.ownBlock = some g ∧ B ≤ g) ∧ One W (w.heap.size + 2) 3 (.int .i64 0) ∧ One W (w.heap.size + 3) 4 (.bool false) ∧ One W (w.heap.size + 4) 32 (.int .i64 e)
  fr : Fr (lgS lb rv) w W
theorem TkI.keep {w : World} {lb : Nat} {rv : Value} {p me ml : Value} {tot : List Rec × Int × Bool × Int} {rs : List Rec} {L B : Nat} {pre : List Rec} {A A' : World} {S : Nat → Prop} (h : TkI w lb rv p me ml tot rs L B pre A) (f : Fr S A A') (hS : ∀ k, S k → w.heap.size + 5 ≤ k ∧ k ≠ L ∧ k ≠ L + 1 ∧ k < B) (hlb : ∀ k, lgS lb rv k → k < w.heap.size) : TkI w lb rv p me ml tot rs L B pre A' := by
  obtain ⟨ls, last, cut, rv', e1, e2, e3, e4, e5, e6⟩ := h.st
  have hl := hlb lb (.inl rfl)
  refine ⟨h.pre_, ⟨ls, last, cut, rv', e1, e2, e3.fr f (fun e => by have := hS _ e; omega) (fun k hk e => ?_), e4, e5.fr f (fun e => (hS _ e).2.1 rfl), e6.fr f (fun e => (hS _ e).2.2.1 rfl)⟩, h.fr.trans f (fun i hi e => by have := hS i e; omega), h.bx.fr f (fun k h1 h2 e => by have := hS k e; omega)⟩
  have := hS k e
  rcases e4 with e4 | ⟨g, e4, hg⟩
  · have := hlb k (.inr (by rw [← e4]; exact hk)); omega
  · rw [hk] at e4; cases e4; omega
theorem TkX.keep {w : World} {lb : Nat} {rv : Value} {tot : List Rec × Int × Bool × Int} {B : Nat} {c : Code} {A A' : World} {S : Nat → Prop} (h : TkX w lb rv tot B c A) (f : Fr S A A') (hS : ∀ k, S k → w.heap.size + 5 ≤ k ∧ k < B) (hlb : ∀ k, lgS lb rv k → k < w.heap.size) : TkX w lb rv tot B c A' := by
  obtain ⟨ls, e, rv', e1, e3, e4, e5, e6, e7⟩ := h.st
  have hl := hlb lb (.inl rfl)
  refine ⟨h.ret, ⟨ls, e, rv', e1, e3.fr f (fun e => by have := hS _ e; omega) (fun k hk e => ?_), e4, e5.fr f (fun e => by have := hS _ e; omega), e6.fr f (fun e => by have := hS _ e; omega), e7.fr f (fun e => by have := hS _ e; omega)⟩, h.fr.trans f (fun i hi e => by have := hS i e; omega)⟩
  have := hS k e
  rcases e4 with e4 | ⟨g, e4, hg⟩
  · have := hlb k (.inr (by rw [← e4]; exact hk)); omega
  · rw [hk] at e4; cases e4; omega
set_option maxRecDepth 100000 in
set_option maxHeartbeats 8000000 in
theorem take_yes (lb : Nat) (rv : Value) (ls : List Rec) (me ml : Int) (a : Option Addr) (n c : Nat) (rs : List Rec) (hn : n = rs.length) (hfew : rs.length ≤ 1759218604442) (w : World) (hl : Lg w lb rv ls 0) (hw : Wl ls) (h : Recs w a c rs) (hoff : ∀ k, lgS lb rv k → ∀ b o, a = some ⟨b, o, none⟩ → rs ≠ [] → k ≠ b) (hE : lkE ls me ml rs = 0) :
    Calls Try.prog 10 #[.pointer (some ⟨lb, 0, none⟩), .agg #[.int .i64 me, .int .i64 ml], .slice a n c] w (TkOut w lb rv (takeR ls me ml rs)) := by
  obtain ⟨B, F, hz⟩ := boxes_are w (.pointer (some ⟨lb, 0, none⟩)) (.int .i64 me) (.int .i64 ml)
  have hlk := look_any lb rv ls 0 me ml a n c rs hn hfew _ (hl.same F) hw (h.same F)
  obtain ⟨hrok, h0l, h1l', hfit, hhas⟩ := lkE_zero hE
  have h1l : ml ≤ 1099511627776 := by have := hw.big; omega
  rw [hE] at hlk
  have HT : Hid (takeR ls me ml rs = tkR ls ml false rs) := if_pos hE
  generalize takeR ls me ml rs = t at *
  have HL : Hid (Lg w lb rv ls 0) := hl
  have HWL : Hid (Wl ls) := hw
  have HS : Hid (Recs w a c rs) := h
  have HN : Hid (n = rs.length) := hn
  have HROK : Hid (∀ r ∈ rs, rok r = true) := hrok
  have HFIT : Hid (fitL me ml rs = rs) := hfit
  have HOFF : Hid (∀ k, lgS lb rv k → ∀ b o, a = some ⟨b, o, none⟩ → rs ≠ [] → k ≠ b) := hoff
  have HLB : Hid (∀ k, lgS lb rv k → k < w.heap.size) := fun k e => by
    rcases e with e | e
    · rw [e]; exact lt_of_block hl.box
    · exact hl.has.lt e
  have hle : n ≤ c := by rw [hn]; exact h.le
  have hmx := h.max
  obtain ⟨x0, x1, _⟩ := B.b1.cells
  obtain ⟨y0, _⟩ := B.b0.cell
  have HB : Hid (Bxs w (boxes w (.pointer (some ⟨lb, 0, none⟩)) (.int .i64 me) (.int .i64 ml)) (.pointer (some ⟨lb, 0, none⟩)) (.int .i64 me) (.int .i64 ml)) := B
  have HF : Hid (Fr (fun _ => False) w (boxes w (.pointer (some ⟨lb, 0, none⟩)) (.int .i64 me) (.int .i64 ml))) := F
  unfold boxes at x0 x1 y0 hlk HB HF hz
  clear hl hw h hn hfew hE hrok hfit hhas hoff B F h1l'
  refine (callsIn_wide (n := 0)).1 ?_
  refine callsIn_of_wp_marks Try.func10 rfl trivial ?_ rfl
  simp only [Try.ntmps10, List.size_toArray, List.length_cons, List.length_nil, Nat.reduceAdd, Nat.reduceSub, Array.replicate_succ, Array.replicate_zero, List.push_toArray, List.append_toArray, List.nil_append, List.cons_append]
  gi_wp2
  generalize ((((w.alloc (.cells #[.pointer (some ⟨lb, 0, none⟩)] 23)).alloc (.cells #[.int .i64 me, .int .i64 ml] 36)).alloc (.cells #[.int .i64 0] 3)).alloc (.cells #[.bool false] 4)).alloc (.cells #[.int .i64 0] 32) = V0 at *
  refine ⟨trivial, rfl, (callsIn_wide.2 hlk).mono ?_⟩
  rintro e w1 ⟨rfl, f1⟩
  clear hlk x0 x1 y0
  have B1 := HB.out.fr f1 (fun _ _ _ f => f)
  obtain ⟨x0, x1, _⟩ := B1.b1.cells
  obtain ⟨y0, _⟩ := B1.b0.cell
  have hz1 := f1.size
  have fb2 : Fr (fun _ => False) w1 ((w1.alloc (.cells #[.int .i64 ml] 3)).alloc (.cells #[.bool false] 4)) := (Fr.box _ _).seq' (Fr.box _ _)
  have B2 := B1.fr fb2 (fun _ _ _ f => f)
  obtain ⟨u0, u1, _⟩ := B2.b1.cells
  have L2 : One ((w1.alloc (.cells #[.int .i64 ml] 3)).alloc (.cells #[.bool false] 4)) w1.heap.size 3 (.int .i64 ml) := (One.new w1 _ _).fr (Fr.box _ _) (fun f => f)
  have C2 : One ((w1.alloc (.cells #[.int .i64 ml] 3)).alloc (.cells #[.bool false] 4)) (w1.heap.size + 1) 4 (.bool false) := by
    have := One.new (w1.alloc (.cells #[.int .i64 ml] 3)) 4 (.bool false)
    rwa [World.size_alloc] at this
  have hz2 : ((w1.alloc (.cells #[.int .i64 ml] 3)).alloc (.cells #[.bool false] 4)).heap.size = w1.heap.size + 2 := by simp
  gi_wp2
  generalize ((w1.alloc (.cells #[.int .i64 ml] 3)).alloc (.cells #[.bool false] 4)) = V2 at *
  refine ⟨trivial, rfl, (callsIn_wide.2 (fitting_call me ml a n c V2)).mono ?_⟩
  rintro e V ⟨rfl, hV⟩
  have fV2 : Fr (fun _ => False) V2 V := by rw [hV]; exact (Fr.box _ _).alloc _
  have M1 : Two V (w1.heap.size + 2) 36 (.int .i64 me) (.int .i64 ml) := by
    rw [hV]
    have := (Two.new V2 36 (.int .i64 me) (.int .i64 ml)).fr (Fr.box _ (.cells #[.slice a n c] 22)) (fun f => f)
    rwa [hz2] at this
  have S1 : One V (w1.heap.size + 3) 22 (.slice a n c) := by
    rw [hV]
    have := One.new (V2.alloc (.cells #[.int .i64 me, .int .i64 ml] 36)) 22 (.slice a n c)
    rwa [World.size_alloc, hz2] at this
  have hsV : V.heap.size = w1.heap.size + 4 := by rw [hV]; simp [hz2]
  have LV := L2.fr fV2 (fun f => f)
  have CV := C2.fr fV2 (fun f => f)
  have BV := B2.fr fV2 (fun _ _ _ f => f)
  have fV := ((HF.out.seq' f1).seq' fb2).seq' fV2
  rw [hz2]
  have hwz : w.heap.size + 5 ≤ w1.heap.size := by omega
  clear hV x0 x1 y0 u0 u1 L2 C2 fV2 fb2 B1 B2 f1
  have hit := fit_iter a n c rs HN.out (fun r hr => (rok_lsn (HROK.out r hr)).2) me ml h0l h1l (w1.heap.size + 2) (w1.heap.size + 3) (fun q => q < V.heap.size ∧ ¬ lgS lb rv q ∧ q ≠ w1.heap.size ∧ q ≠ w1.heap.size + 1 ∧ ¬ (w.heap.size + 2 ≤ q ∧ q < w.heap.size + 5)) V ?S ?M ?C
  case S =>
    intro W f
    refine recs_fr HS.out (S := lgS lb rv) ((fV.widen (fun _ e => e.elim)).trans f (fun i hi e => ?_)) (fun k b o ha hne e => HOFF.out k e b o ha hne)
    by_cases hk : lgS lb rv i
    · exact hk
    · exact absurd ⟨by omega, hk, by omega, by omega, by omega⟩ e
  case M => intro W f; exact M1.fr f (fun e => e ⟨by omega, fun e => by have := HLB.out _ e; omega, by omega, by omega, by omega⟩)
  case C => intro W f; exact (S1.fr f (fun e => e ⟨by omega, fun e => by have := HLB.out _ e; omega, by omega, by omega, by omega⟩)).cell.1
  rw [HFIT.out] at hit
  gi_wp2
  refine over (gf := 35) (lb := #[.pointer (some ⟨w1.heap.size + 2, 0, none⟩), .pointer (some ⟨w1.heap.size + 3, 0, none⟩)]) rfl (enters_of Try.func35 (by kernel_rfl) rfl) hit (Fr.refl _ _) (fun _ => rfl)
    (TkT lb w.heap.size w1.heap.size) (TkI w lb rv (.pointer (some ⟨lb, 0, none⟩)) (.int .i64 me) (.int .i64 ml) t rs w1.heap.size (V.heap.size + 3)) (fun c _ W => TkX w lb rv t (V.heap.size + 3) c W) ?st ?stx ?ol ?bk ?ap ?h0 ?round ?done ?stop
  case st => intro pre A B hI f; exact hI.keep f (fun k e => by omega) HLB.out
  case stx => intro cd pre A B hX f; exact hX.keep f (fun k e => by omega) HLB.out
  case ol =>
    intro pre A k hI hT
    obtain ⟨ls', last, cut, rv', e1, e2, e3, e4, e5, e6⟩ := hI.st
    have h4 := hI.bx.b4.lt
    rcases hT with h | h | h | h | h
    · rw [h]; exact lt_of_block e3.box
    · exact e3.has.lt ((own_lg e3).1 h)
    · rw [h]; exact e5.lt
    · rw [h]; exact e6.lt
    · omega
  case bk =>
    intro pre A B k hI f hT
    obtain ⟨ls', last, cut, rv', e1, e2, e3, e4, e5, e6⟩ := hI.st
    have hl := HLB.out lb (.inl rfl)
    rcases hT with h | h | h | h | h
    · exact .inl h
    · obtain ⟨r9, fl9, h1, h2⟩ := h
      rw [f.block lb (lt_of_block e3.box) (fun e => by omega)] at h1
      exact .inr (.inl ⟨r9, fl9, h1, h2⟩)
    · exact .inr (.inr (.inl h))
    · exact .inr (.inr (.inr (.inl h)))
    · exact .inr (.inr (.inr (.inr h)))
  case ap =>
    intro pre A k hI hT
    obtain ⟨ls', last, cut, rv', e1, e2, e3, e4, e5, e6⟩ := hI.st
    have hl := HLB.out lb (.inl rfl)
    rcases hT with h | h | h | h | h
    · subst h; exact ⟨fun e => e.2.1 (.inl rfl), by omega, by omega, by omega⟩
    · have hk := (own_lg e3).1 h
      rcases e4 with e4 | ⟨g, e4, hg⟩
      · have hr : lgS lb rv k := .inr (by rw [← e4]; exact hk)
        have := HLB.out k hr
        exact ⟨fun e => e.2.1 hr, by omega, by omega, by omega⟩
      · rw [hk] at e4; cases e4
        exact ⟨fun e => by omega, by omega, by omega, by omega⟩
    · exact ⟨fun e => e.2.2.1 h, by omega, by omega, by omega⟩
    · exact ⟨fun e => e.2.2.2.1 h, by omega, by omega, by omega⟩
    · exact ⟨fun e => e.2.2.2.2 h, by omega, by omega, by omega⟩
  case h0 => exact ⟨List.nil_prefix, ⟨ls, ml, false, rv, HT.out, HWL.out, HL.out.same fV, .inl rfl, LV, CV⟩, fV.widen (fun _ e => e.elim), BV⟩
  case round =>
    rintro pre r W hI hpx hz _
    dsimp only
    gi_wp2
    refine ⟨Fr.box W _, fun W2 f2 => ?_⟩
    have hbx := (f2.block W.heap.size (by simp) (by omega)).trans (heap_alloc_new W (.cells #[.int .i64 r.lsn, .int .i64 r.ep, .int .i64 r.kind, .int .i64 r.page, .int .i64 r.other, .int .i64 r.req, .string r.key, .string r.val] 47))
    have hz2 := f2.size
    rw [World.size_alloc] at hz2
    have hI2 := (hI.keep (Fr.box W (.cells #[.int .i64 r.lsn, .int .i64 r.ep, .int .i64 r.kind, .int .i64 r.page, .int .i64 r.other, .int .i64 r.req, .string r.key, .string r.val] 47)) (fun k e => e.elim) HLB.out).keep f2 (fun k e => by omega) HLB.out
    obtain ⟨ls', last, cut, rv', e1, e2, e3W, e4, e5W, e6W⟩ := hI.st
    have HOW : Hid (∀ k, rv'.ownBlock = some k → k < W.heap.size) := fun k e => e3W.has.lt e
    have fW2 : Fr (fun k => k = V.heap.size + 1) W W2 := ((Fr.box W (.cells #[.int .i64 r.lsn, .int .i64 r.ep, .int .i64 r.kind, .int .i64 r.page, .int .i64 r.other, .int .i64 r.req, .string r.key, .string r.val] 47)).widen (fun _ e => e.elim)).trans f2 (fun _ _ e => e)
    have HLS : Hid (∀ k, lgS lb rv' k → k < w.heap.size ∨ V.heap.size + 3 ≤ k) := fun k e => by
      rcases e with e | e
      · exact .inl (HLB.out k (.inl e))
      · rcases e4 with e4 | ⟨g, e4, hg⟩
        · exact .inl (HLB.out k (.inr (by rw [← e4]; exact e)))
        · rw [e] at e4; cases e4; exact .inr hg
    have e3 := e3W.fr fW2 (fun e => by have := HLB.out lb (.inl rfl); omega) (fun k hk e => by have := HLS.out k (.inr hk); omega)
    have e5 := e5W.fr fW2 (by omega)
    have e6 := e6W.fr fW2 (by omega)
    have hrm : rs[pre.length]? = some r := by
      obtain ⟨q, hq⟩ := hpx
      rw [← hq]; simp
    have hrr := rok_lsn (HROK.out r (List.mem_of_getElem? hrm))
    have hto : Calls Try.prog 24 #[.pointer (some ⟨lb, 0, none⟩), (.agg #[.int .i64 r.lsn, .int .i64 r.ep, .int .i64 r.kind, .int .i64 r.page, .int .i64 r.other, .int .i64 r.req, .string r.key, .string r.val])] W2 fun e w' => e = .returned (.tuple #[.bool (oneC ls' r), .int .i64 (oneE ls' r)]) ∧ LgTo W2 lb rv' (oneL ls' r) w' := takeOne_any r hrr.1 hrr.2 lb rv' ls' W2 e3 e2
    have HNX : Hid (t = if oneE ls' r = 0 then tkR (oneL ls' r) r.lsn (cut || oneC ls' r) (rs.drop (pre.length + 1)) else (oneL ls' r, 0, false, oneE ls' r)) := by show _ = _; rw [e1]; exact tkR_next hrm
    have HWN : Hid (Wl (oneL ls' r)) := one_wl e2 r
    have HPX : Hid (pre ++ [r] <+: rs) := hpx
    have HE4 : Hid (rv'.ownBlock = rv.ownBlock ∨ ∃ g, rv'.ownBlock = some g ∧ V.heap.size + 3 ≤ g) := e4
    have HE3 : Hid (Lg W2 lb rv' ls' 0) := e3
    have HE5 : Hid (One W2 w1.heap.size 3 (.int .i64 last)) := e5
    have HE6 : Hid (One W2 (w1.heap.size + 1) 4 (.bool cut)) := e6
    have HBX2 : Hid (Bxs w W2 (.pointer (some ⟨lb, 0, none⟩)) (.int .i64 me) (.int .i64 ml)) := hI2.bx
    have HFR2 : Hid (Fr (lgS lb rv) w W2) := hI2.fr
    obtain ⟨⟨d0, d1, d2, d3, d4, d5, d6, d7⟩, _⟩ := rec_cells hbx
    obtain ⟨y0, _⟩ := HBX2.out.b0.cell
    have HRB : Hid (W2.heap[W.heap.size]? = some (.cells #[.int .i64 r.lsn, .int .i64 r.ep, .int .i64 r.kind, .int .i64 r.page, .int .i64 r.other, .int .i64 r.req, .string r.key, .string r.val] 47 (0, 0))) := hbx
    have HZ2 : Hid (W.heap.size + 1 ≤ W2.heap.size ∧ V.heap.size + 2 ≤ W.heap.size) := ⟨hz2, hz⟩
    have HSZ : Hid (V.heap.size = w1.heap.size + 4 ∧ w.heap.size + 5 ≤ w1.heap.size) := ⟨hsV, hwz⟩
    clear hI hI2 hpx e1 e2 e3 e4 e5 e6 e3W e5W e6W hbx hrm hrr f2 fW2 hz2 hz hit LV CV BV fV M1 S1 hsV
    generalize oneE ls' r = E at *
    generalize oneC ls' r = Cc at *
    generalize oneL ls' r = l1 at *
    gi_wp2
    refine ⟨trivial, rfl, (CallsIn.inRound _ (callsIn_wide.2 hto)).mono ?_⟩
    rintro e w5 ⟨rfl, rv2, l2, f5, o2⟩
    obtain ⟨z1, z2⟩ := HZ2.out
    obtain ⟨z3, z4⟩ := HSZ.out
    have own2 : rv2.ownBlock = rv.ownBlock ∨ ∃ g, rv2.ownBlock = some g ∧ V.heap.size + 3 ≤ g := by
      rcases o2 with o2 | ⟨g, o2, hg⟩
      · rw [o2]; exact HE4.out
      · exact .inr ⟨g, o2, by omega⟩
    have F5 : Fr (lgS lb rv) w w5 := HFR2.out.trans f5 (fun i hi e => by
      rcases e with e | e
      · exact .inl e
      · rcases HE4.out with e4 | ⟨g, e4, hg⟩
        · exact .inr (by rw [← e4]; exact e)
        · rw [e] at e4; cases e4; omega)
    have B5 := HBX2.out.fr f5 (fun k h1 h2 e => by have := HLS.out k e; omega)
    have L5 := HE5.out.fr f5 (fun e => by have := HLS.out _ e; omega)
    have C5 := HE6.out.fr f5 (fun e => by have := HLS.out _ e; omega)
    have hbx5 := (f5.block W.heap.size (by omega) (fun e => by
      rcases e with e | e
      · have := HLB.out lb (.inl rfl); omega
      · have := HOW.out _ e; omega)).trans HRB.out
    have T5 : ∀ k, lgS lb rv' k → TkT lb w.heap.size w1.heap.size W2 k := fun k e => by
      rcases e with e | e
      · exact .inl e
      · exact .inr (.inl ((own_lg HE3.out).2 e))
    have hl := HLB.out lb (.inl rfl)
    clear d0 d1 d2 d3 d4 d5 d6 d7 y0
    obtain ⟨⟨d0, d1, d2, d3, d4, d5, d6, d7⟩, _⟩ := rec_cells hbx5
    by_cases hE : E = 0
    · subst hE
      obtain ⟨L6, fL⟩ := L5.set (.int .i64 r.lsn)
      obtain ⟨C6, fC⟩ := (C5.fr fL (by omega)).set (.bool (cut || Cc))
      obtain ⟨k0, k1⟩ := L5.cell
      obtain ⟨k2, k3⟩ := C5.cell
      obtain ⟨k4, k5⟩ := (C5.fr fL (by omega)).cell
      have fLC : Fr (fun k => k = w1.heap.size ∨ k = w1.heap.size + 1) w5 ((w5.setCell ⟨w1.heap.size, 0, none⟩ (.int .i64 r.lsn)).setCell ⟨w1.heap.size + 1, 0, none⟩ (.bool (cut || Cc))) := (fL.widen (fun k e => .inl e)).trans (fC.widen (T := fun k => k = w1.heap.size ∨ k = w1.heap.size + 1) (fun k e => .inr e)) (fun _ _ e => e)
      have lg6 := l2.fr fLC (fun e => by omega) (fun k hk e => by
        rcases own2 with o | ⟨g, o, hg⟩
        · have := HLB.out k (.inr (by rw [← o]; exact hk)); omega
        · rw [hk] at o; cases o; omega)
      have hdr : (pre ++ [r]).length = pre.length + 1 := by simp
      have HI6 : Hid (TkI w lb rv (.pointer (some ⟨lb, 0, none⟩)) (.int .i64 me) (.int .i64 ml) t rs w1.heap.size (V.heap.size + 3) (pre ++ [r]) ((w5.setCell ⟨w1.heap.size, 0, none⟩ (.int .i64 r.lsn)).setCell ⟨w1.heap.size + 1, 0, none⟩ (.bool (cut || Cc)))) :=
        ⟨HPX.out, ⟨l1, r.lsn, cut || Cc, rv2, by rw [hdr, HNX.out, if_pos rfl], HWN.out, lg6, own2, L6.fr fC (by omega), C6⟩, F5.trans fLC (fun i hi e => by omega), B5.fr fLC (fun k h1 h2 e => by omega)⟩
      have HFR6 : Hid (Fr (TkT lb w.heap.size w1.heap.size W2) W2 ((w5.setCell ⟨w1.heap.size, 0, none⟩ (.int .i64 r.lsn)).setCell ⟨w1.heap.size + 1, 0, none⟩ (.bool (cut || Cc)))) := (f5.widen T5).trans fLC (fun i hi e => by
        rcases e with e | e
        · exact .inr (.inr (.inl e))
        · exact .inr (.inr (.inr (.inl e))))
      have HGR : Hid (∀ k, TkT lb w.heap.size w1.heap.size ((w5.setCell ⟨w1.heap.size, 0, none⟩ (.int .i64 r.lsn)).setCell ⟨w1.heap.size + 1, 0, none⟩ (.bool (cut || Cc))) k → TkT lb w.heap.size w1.heap.size W2 k ∨ W2.heap.size ≤ k) := fun k hk => by
        rcases hk with h | h | h | h | h
        · exact .inl (.inl h)
        · have h := (own_lg lg6).1 h
          rcases o2 with o | ⟨g, o, hg⟩
          · exact .inl (.inr (.inl ((own_lg HE3.out).2 (by rw [← o]; exact h))))
          · rw [h] at o; cases o; exact .inr hg
        · exact .inl (.inr (.inr (.inl h)))
        · exact .inl (.inr (.inr (.inr (.inl h))))
        · exact .inl (.inr (.inr (.inr (.inr h))))
      clear HNX HWN HPX HE4 HE3 HE5 HE6 HBX2 HFR2 HRB own2 F5 B5 L5 C5 hbx5 T5 L6 C6 fL fC fLC lg6 l2 f5 o2 z1 z2 z3 z4 hdr
      cases cut
      · gi_wp2
        exact ⟨HFR6.out, HGR.out, HI6.out⟩
      · gi_wp2
        exact ⟨HFR6.out, HGR.out, HI6.out⟩
    · have hE' : (E != 0) = true := by simpa using hE
      obtain ⟨W', hW', o2', o3', o4', fE⟩ := B5.put (.int .i64 0) (.bool false) (.int .i64 E)
      obtain ⟨k0, k1⟩ := B5.b2.cell
      obtain ⟨k2, k3⟩ := B5.b3.cell
      obtain ⟨k4, k5⟩ := B5.b4.cell
      have HX6 : Hid (TkX w lb rv t (V.heap.size + 3) .ret W') :=
        ⟨rfl, ⟨l1, E, rv2, by rw [HNX.out, if_neg hE], l2.fr fE (fun e => by omega) (fun k hk e => by
          rcases own2 with o | ⟨g, o, hg⟩
          · have := HLB.out k (.inr (by rw [← o]; exact hk)); omega
          · rw [hk] at o; cases o; omega), own2, o2', o3', o4'⟩, F5.trans fE (fun i hi e => by omega)⟩
      have HFR6 : Hid (Fr (TkT lb w.heap.size w1.heap.size W2) W2 W') := (f5.widen T5).trans fE (fun i hi e => .inr (.inr (.inr (.inr e))))
      rw [hW'] at HX6 HFR6
      clear HNX HWN HPX HE4 HE3 HE5 HE6 HBX2 HFR2 HRB own2 F5 B5 L5 C5 hbx5 T5 l2 f5 o2 z1 z2 z3 z4 hW' o2' o3' o4' fE hE
      gi_wp2
      exact ⟨HFR6.out, HX6.out⟩
  case done =>
    rintro xs W rfl hI hK
    obtain ⟨ls', last, cut, rv', e1, e2, e3, e4, e5, e6⟩ := hI.st
    rw [List.drop_length] at e1
    have HE1 : Hid (t = (ls', last, cut, 0)) := e1
    have hl := HLB.out lb (.inl rfl)
    obtain ⟨W0, hW', o2', o3', o4', fE'⟩ := hI.bx.put (.int .i64 last) (.bool cut) (.int .i64 0)
    have fd : Fr (fun _ => False) W0 W0.drew := Fr.drew (Fr.refl _ _)
    have fE := fE'.drew
    have o2 := o2'.fr fd (fun f => f)
    have o3 := o3'.fr fd (fun f => f)
    have o4 := o4'.fr fd (fun f => f)
    obtain ⟨W', hWd⟩ : ∃ X, X = W0.drew := ⟨_, rfl⟩
    rw [← hWd] at fE o2 o3 o4
    have fp := Fr.put W' V.heap.size (.deferred none)
    have hK2 := (fE.block V.heap.size (Array.getElem?_eq_some_iff.1 hK).1 (fun e => by omega)).trans hK
    have fEp : Fr (fun k => (w.heap.size + 2 ≤ k ∧ k < w.heap.size + 5) ∨ k = V.heap.size) W (W'.putObj V.heap.size (.deferred none)) := (fE.widen (fun k e => .inl e)).trans (fp.widen (T := fun k => (w.heap.size + 2 ≤ k ∧ k < w.heap.size + 5) ∨ k = V.heap.size) (fun k e => .inr e)) (fun _ _ e => e)
    have HEND : Hid (LgTo w lb rv ls' (W'.putObj V.heap.size (.deferred none))) := ⟨rv', e3.fr fEp (fun e => by omega) (fun k hk e => by
      rcases e4 with o | ⟨g, o, hg⟩
      · have := HLB.out k (.inr (by rw [← o]; exact hk)); omega
      · rw [hk] at o; cases o; omega), hI.fr.trans fEp (fun i hi e => by omega), by
      rcases e4 with o | ⟨g, o, hg⟩
      · exact .inl o
      · exact .inr ⟨g, o, by omega⟩⟩
    obtain ⟨g2, _⟩ := (o2.fr fp (by omega)).cell
    obtain ⟨g3, _⟩ := (o3.fr fp (by omega)).cell
    obtain ⟨g4, _⟩ := (o4.fr fp (by omega)).cell
    obtain ⟨k0, k1⟩ := hI.bx.b2.cell
    obtain ⟨k2, k3⟩ := hI.bx.b3.cell
    obtain ⟨k4, k5⟩ := hI.bx.b4.cell
    obtain ⟨k6, _⟩ := e5.cell
    obtain ⟨k7, _⟩ := e6.cell
    have hmo : Try.prog.follows .mixedOrders = true := by kernel_rfl
    rw [hW'] at hWd
    clear fd fE' o2' o3' o4' hW'
    clear hsV e1 e2 e3 e4 e5 e6 fE fEp fp o2 o3 o4 hI hit LV CV BV fV M1 S1
    gi_wp2
    gi_region_with_o (fail)
    all_goals
      rw [← hWd]
      clear hWd
      gi_wp2
      refine ⟨by simp, .inl ⟨_, _, rfl, run_takeDeferred hK2, ?_⟩⟩
      exact ⟨.tuple #[.int .i64 last, .bool cut, .int .i64 0], by simp [results, Try.results10, go_sem, g2, g3, g4], by rw [HE1.out]; exact ⟨rfl, HEND.out⟩⟩
  case stop =>
    rintro cd pre W hX hK
    obtain rfl := hX.ret
    obtain ⟨ls', E, rv', e1, e3, e4, e5, e6, e7⟩ := hX.st
    have hl := HLB.out lb (.inl rfl)
    have fp := Fr.put W V.heap.size (.deferred none)
    have HEND : Hid (LgTo w lb rv ls' (W.putObj V.heap.size (.deferred none))) := ⟨rv', e3.fr fp (fun e => by omega) (fun k hk e => by
      rcases e4 with o | ⟨g, o, hg⟩
      · have := HLB.out k (.inr (by rw [← o]; exact hk)); omega
      · rw [hk] at o; cases o; omega), hX.fr.trans fp (fun i hi e => by omega), by
      rcases e4 with o | ⟨g, o, hg⟩
      · exact .inl o
      · exact .inr ⟨g, o, by omega⟩⟩
    obtain ⟨g2, _⟩ := (e5.fr fp (by omega)).cell
    obtain ⟨g3, _⟩ := (e6.fr fp (by omega)).cell
    obtain ⟨g4, _⟩ := (e7.fr fp (by omega)).cell
    have HE1 : Hid (t = (ls', 0, false, E)) := e1
    clear hsV e1 e3 e4 e5 e6 e7 fp hX
    gi_wp2
    refine ⟨by simp, .inl ⟨_, _, rfl, run_takeDeferred hK, ?_⟩⟩
    exact ⟨.tuple #[.int .i64 0, .bool false, .int .i64 E], by simp [results, Try.results10, go_sem, g2, g3, g4], by rw [HE1.out]; exact ⟨rfl, HEND.out⟩⟩
end Go.Proofs.Ytimpoincnfiibaa
