
/- What is taken of what was sent. -/
import Derived.Test.YtimpoincnfiibaaShLook
namespace Go.Proofs.Ytimpoincnfiibaa
open Go.RowKit Go.Shelf
attribute [local go_sem] Oper.semAt_some

/-- What taking records that fit does: the log, the last LSN, whether it was cut, why not all. -/
def tkR : List Rec → Int → Bool → List Rec → List Rec × Int × Bool × Int
  | ls, last, cut, [] => (ls, last, cut, 0)
  | ls, _, cut, r :: rs => if oneE ls r = 0 then tkR (oneL ls r) r.lsn (cut || oneC ls r) rs else (oneL ls r, 0, false, oneE ls r)
def takeR (ls : List Rec) (me ml : Int) (rs : List Rec) : List Rec × Int × Bool × Int := if lkE ls me ml rs = 0 then tkR ls ml false rs else (ls, 0, false, lkE ls me ml rs)
theorem tkR_next {ls : List Rec} {last : Int} {cut : Bool} {rs : List Rec} {k : Nat} {r : Rec} (h : rs[k]? = some r) : tkR ls last cut (rs.drop k) = if oneE ls r = 0 then tkR (oneL ls r) r.lsn (cut || oneC ls r) (rs.drop (k + 1)) else (oneL ls r, 0, false, oneE ls r) := by
  have hj := (List.getElem?_eq_some_iff.1 h).1
  rw [List.drop_eq_getElem_cons hj, (List.getElem?_eq_some_iff.1 h).2]
  rfl
theorem tkR_wl (rs : List Rec) : ∀ {ls : List Rec} (last : Int) (cut : Bool), Wl ls → Wl (tkR ls last cut rs).1 := by
  induction rs with
  | nil => intro ls last cut h; exact h
  | cons r rs ih =>
    intro ls last cut h
    unfold tkR
    split
    · exact ih _ _ (one_wl h r)
    · exact one_wl h r
theorem takeR_wl {ls : List Rec} (h : Wl ls) (me ml : Int) (rs : List Rec) : Wl (takeR ls me ml rs).1 := by
  unfold takeR
  split
  · exact tkR_wl rs _ _ h
  · exact h
theorem fitL_all : ∀ (rs : List Rec) (me ml : Int), (fitL me ml rs).length = rs.length → fitL me ml rs = rs := by
  intro rs
  induction rs with
  | nil => intros; rfl
  | cons r rs ih =>
    intro me ml h
    unfold fitL at h ⊢
    split at h
    · rename_i hf
      rw [if_pos hf, ih _ _ (by simpa using h)]
    · simp at h
theorem lkE_zero {ls : List Rec} {me ml : Int} {rs : List Rec} (h : lkE ls me ml rs = 0) : (∀ r ∈ rs, rok r = true) ∧ 0 ≤ ml ∧ ml ≤ max 0 (ls.length : Int) ∧ fitL me ml rs = rs ∧ (0 < ml → hasB ls me ml = true) := by
  unfold lkE at h
  split at h
  · rename_i ha
    split at h
    · exact absurd h (by decide)
    · rename_i h0
      split at h
      · exact absurd h (by decide)
      · rename_i hc
        have hb : allB me ml rs = true := by
          cases hb : allB me ml rs
          · exact absurd (.inr hb) hc
          · rfl
        have hh : 0 < ml → hasB ls me ml = true := fun hp => by
          cases hb : hasB ls me ml
          · exact absurd (.inl ⟨hp, hb⟩) hc
          · rfl
        refine ⟨List.all_eq_true.1 ha, by omega, ?_, ?_, hh⟩
        · by_cases hp : 0 < ml
          · have := (hasB_lsn (hh hp)).2; omega
          · omega
        · unfold allB at hb
          rw [beq_iff_eq] at hb
          exact fitL_all _ _ _ (by omega)
  · exact absurd h (by decide)
def TkOut (w : World) (lb : Nat) (rv : Value) (t : List Rec × Int × Bool × Int) (e : Ending) (w' : World) : Prop := e = .returned (.tuple #[.int .i64 t.2.1, .bool t.2.2.1, .int .i64 t.2.2.2]) ∧ LgTo w lb rv t.1 w'
/-- The five variables that Take makes first. -/
def boxes (w : World) (p me ml : Value) : World := ((((w.alloc (.cells #[p] 23)).alloc (.cells #[me, ml] 36)).alloc (.cells #[.int .i64 0] 3)).alloc (.cells #[.bool false] 4)).alloc (.cells #[.int .i64 0] 32)
structure Bxs (w W : World) (p me ml : Value) : Prop where
  b0 : One W w.heap.size 23 p
  b1 : Two W (w.heap.size + 1) 36 me ml
  b2 : One W (w.heap.size + 2) 3 (.int .i64 0)
  b3 : One W (w.heap.size + 3) 4 (.bool false)
  b4 : One W (w.heap.size + 4) 32 (.int .i64 0)
theorem Bxs.fr {S : Nat → Prop} {w W W' : World} {p me ml : Value} (h : Bxs w W p me ml) (f : Fr S W W') (hn : ∀ k, w.heap.size ≤ k → k < w.heap.size + 5 → ¬ S k) : Bxs w W' p me ml :=
  ⟨h.b0.fr f (hn _ (by omega) (by omega)), h.b1.fr f (hn _ (by omega) (by omega)), h.b2.fr f (hn _ (by omega) (by omega)), h.b3.fr f (hn _ (by omega) (by omega)), h.b4.fr f (hn _ (by omega) (by omega))⟩
theorem boxes_are (w : World) (p me ml : Value) : Bxs w (boxes w p me ml) p me ml ∧ Fr (fun _ => False) w (boxes w p me ml) ∧ (boxes w p me ml).heap.size = w.heap.size + 5 := by
  unfold boxes
  have z1 : (w.alloc (.cells #[p] 23)).heap.size = w.heap.size + 1 := by simp
  generalize hA : w.alloc (.cells #[p] 23) = A at *
  have fA : Fr (fun _ => False) w A := by rw [← hA]; exact Fr.box _ _
  have z2 : (A.alloc (.cells #[me, ml] 36)).heap.size = w.heap.size + 2 := by simp [z1]
  generalize hB : A.alloc (.cells #[me, ml] 36) = B at *
  have fB : Fr (fun _ => False) A B := by rw [← hB]; exact Fr.box _ _
  have z3 : (B.alloc (.cells #[.int .i64 0] 3)).heap.size = w.heap.size + 3 := by simp [z2]
  generalize hC : B.alloc (.cells #[.int .i64 0] 3) = C at *
  have fC : Fr (fun _ => False) B C := by rw [← hC]; exact Fr.box _ _
  have z4 : (C.alloc (.cells #[.bool false] 4)).heap.size = w.heap.size + 4 := by simp [z3]
  generalize hD : C.alloc (.cells #[.bool false] 4) = D at *
  have fD : Fr (fun _ => False) C D := by rw [← hD]; exact Fr.box _ _
  have fE : Fr (fun _ => False) D (D.alloc (.cells #[.int .i64 0] 32)) := Fr.box _ _
  have fDE := fD.seq' fE
  have fCE := fC.seq' fDE
  have fBE := fB.seq' fCE
  refine ⟨⟨?_, ?_, ?_, ?_, ?_⟩, fA.seq' fBE, by simp [z4]⟩
  · exact (by rw [← hA]; exact One.new w _ _ : One A w.heap.size 23 p).fr fBE (fun f => f)
  · have : Two B A.heap.size 36 me ml := by rw [← hB]; exact Two.new A _ _ _
    rw [z1] at this
    exact this.fr fCE (fun f => f)
  · have : One C B.heap.size 3 (.int .i64 0) := by rw [← hC]; exact One.new B _ _
    rw [z2] at this
    exact this.fr fDE (fun f => f)
  · have : One D C.heap.size 4 (.bool false) := by rw [← hD]; exact One.new C _ _
    rw [z3] at this
    exact this.fr fE (fun f => f)
  · have := One.new D 32 (.int .i64 0)
    rw [z4] at this
    exact this
/-- The three results, laid. -/
theorem Bxs.put {w W : World} {p me ml : Value} (h : Bxs w W p me ml) (x y z : Value) : ∃ W', W' = ((W.setCell ⟨w.heap.size + 2, 0, none⟩ x).setCell ⟨w.heap.size + 3, 0, none⟩ y).setCell ⟨w.heap.size + 4, 0, none⟩ z ∧ One W' (w.heap.size + 2) 3 x ∧ One W' (w.heap.size + 3) 4 y ∧ One W' (w.heap.size + 4) 32 z ∧ Fr (fun k => w.heap.size + 2 ≤ k ∧ k < w.heap.size + 5) W W' := by
  obtain ⟨h2, f2⟩ := h.b2.set x
  obtain ⟨h3, f3⟩ := (h.b3.fr f2 (by omega)).set y
  obtain ⟨h4, f4⟩ := ((h.b4.fr f2 (by omega)).fr f3 (by omega)).set z
  exact ⟨_, rfl, (h2.fr f3 (by omega)).fr f4 (by omega), h3.fr f4 (by omega), h4, ((f2.widen (fun k e => by omega)).trans (f3.widen (T := fun k => w.heap.size + 2 ≤ k ∧ k < w.heap.size + 5) (fun k e => by omega)) (fun _ _ e => e)).trans (f4.widen (T := fun k => w.heap.size + 2 ≤ k ∧ k < w.heap.size + 5) (fun k e => by omega)) (fun _ _ e => e)⟩
set_option maxRecDepth 100000 in
set_option maxHeartbeats 4000000 in
theorem take_no (lb : Nat) (rv : Value) (ls : List Rec) (me ml : Int) (a : Option Addr) (n c : Nat) (rs : List Rec) (hn : n = rs.length) (hfew : rs.length ≤ 1759218604442) (w : World) (hl : Lg w lb rv ls 0) (hw : Wl ls) (h : Recs w a c rs) (hE : lkE ls me ml rs ≠ 0) :
    Calls Try.prog 10 #[.pointer (some ⟨lb, 0, none⟩), .agg #[.int .i64 me, .int .i64 ml], .slice a n c] w (TkOut w lb rv (takeR ls me ml rs)) := by
  obtain ⟨B, F, hz⟩ := boxes_are w (.pointer (some ⟨lb, 0, none⟩)) (.int .i64 me) (.int .i64 ml)
  have hlk := look_any lb rv ls 0 me ml a n c rs hn hfew _ (hl.same F) hw (h.same F)
  have HT : Hid (takeR ls me ml rs = (ls, 0, false, lkE ls me ml rs)) := if_neg hE
  have HL : Hid (Lg w lb rv ls 0) := hl
  generalize takeR ls me ml rs = t at *
  generalize lkE ls me ml rs = E at *
  have hE' : (E != 0) = true := by simpa using hE
  obtain ⟨x0, x1, _⟩ := B.b1.cells
  obtain ⟨y0, _⟩ := B.b0.cell
  unfold boxes at x0 x1 y0 hlk
  clear hl hw h hn hfew hE
  have HB : Hid (Bxs w (boxes w (.pointer (some ⟨lb, 0, none⟩)) (.int .i64 me) (.int .i64 ml)) (.pointer (some ⟨lb, 0, none⟩)) (.int .i64 me) (.int .i64 ml)) := B
  have HF : Hid (Fr (fun _ => False) w (boxes w (.pointer (some ⟨lb, 0, none⟩)) (.int .i64 me) (.int .i64 ml))) := F
  unfold boxes at HB HF
  clear B F hz
  go_enter Try.func10, Try.ntmps10
  go_wp2_with fail
  refine hlk.mono ?_
  rintro e w1 ⟨rfl, f1⟩
  have B1 := HB.out.fr f1 (fun _ _ _ f => f)
  obtain ⟨W', hW', o2, o3, o4, fE⟩ := B1.put (.int .i64 0) (.bool false) (.int .i64 E)
  obtain ⟨c2, d2⟩ := B1.b2.cell
  obtain ⟨c3, d3⟩ := B1.b3.cell
  obtain ⟨c4, d4⟩ := B1.b4.cell
  have FW := (HF.out.seq' f1).trans fE (fun i hi e => by omega)
  obtain ⟨s2, _⟩ := o2.cell
  obtain ⟨s3, _⟩ := o3.cell
  obtain ⟨s4, _⟩ := o4.cell
  have HOUT : Hid (TkOut w lb rv t (.returned (.tuple #[.int .i64 0, .bool false, .int .i64 E])) W') := by
    show TkOut _ _ _ _ _ _
    rw [HT.out]
    exact ⟨rfl, (LgTo.refl HL.out).same FW⟩
  rw [hW'] at s2 s3 s4 HOUT
  clear hW' o2 o3 o4 fE FW B1 f1
  go_wp2
  refine bodyPost_ret (v := .tuple #[.int .i64 0, .bool false, .int .i64 E]) (by simp [results, Try.results10, go_sem, s2, s3, s4]) rfl ?_
  exact HOUT.out
end Go.Proofs.Ytimpoincnfiibaa
