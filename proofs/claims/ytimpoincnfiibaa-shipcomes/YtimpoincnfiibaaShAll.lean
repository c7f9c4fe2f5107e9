
/- Whether all records fit. -/
import Derived.Test.YtimpoincnfiibaaShFit
namespace Go.Proofs.Ytimpoincnfiibaa
open Go.RowKit Go.Shelf
attribute [local go_sem] Oper.semAt_some

/-- A variable of one cell. -/
def One (w : World) (b : Nat) (t : TypeId) (x : Value) : Prop := w.heap[b]? = some (.cells #[x] t (0, 0))
theorem One.cell {w : World} {b : Nat} {t : TypeId} {x : Value} (h : One w b t x) : w.cell? ⟨b, 0, none⟩ = some x ∧ w.frozen? ⟨b, 0, none⟩ = false := by
  unfold One at h
  refine ⟨?_, ?_⟩ <;> simp [World.cell?, World.frozen?, h]
theorem One.lt {w : World} {b : Nat} {t : TypeId} {x : Value} (h : One w b t x) : b < w.heap.size := (Array.getElem?_eq_some_iff.1 h).1
theorem One.fr {S : Nat → Prop} {w w' : World} {b : Nat} {t : TypeId} {x : Value} (h : One w b t x) (f : Fr S w w') (hn : ¬ S b) : One w' b t x := by
  unfold One; rw [f.block b h.lt hn]; exact h
theorem One.new (w : World) (t : TypeId) (x : Value) : One (w.alloc (.cells #[x] t)) w.heap.size t x := heap_alloc_new w _
theorem One.set {w : World} {b : Nat} {t : TypeId} {x : Value} (h : One w b t x) (u : Value) : One (w.setCell ⟨b, 0, none⟩ u) b t u ∧ Fr (fun k => k = b) w (w.setCell ⟨b, 0, none⟩ u) := by
  have hlt := h.lt
  have h' : w.heap[b] = .cells #[x] t (0, 0) := by unfold One at h; simpa [Array.getElem?_eq_getElem hlt] using h
  refine ⟨?_, (Fr.refl (fun i => i = b) w).setCell (p := ⟨b, 0, none⟩) (fun _ => rfl) u⟩
  show (w.heap.modify b _)[b]? = _
  rw [Array.getElem?_eq_getElem (by rw [Array.size_modify]; exact hlt), Array.getElem_modify_self, h']
  rfl
theorem fitting_call (me ml : Int) (a : Option Addr) (n c : Nat) (w : World) : Calls Try.prog 23 #[.agg #[.int .i64 me, .int .i64 ml], .slice a n c] w fun e w' => e = .returned (.func (.func 35) #[] #[.pointer (some ⟨w.heap.size, 0, none⟩), .pointer (some ⟨w.heap.size + 1, 0, none⟩)]) ∧ w' = (w.alloc (.cells #[.int .i64 me, .int .i64 ml] 36)).alloc (.cells #[.slice a n c] 22) := by
  go_enter Try.func23, Try.ntmps23
  go_wp2
  go_ret
  exact ⟨rfl, rfl⟩
/-- Do all fit? -/
def allB (me ml : Int) (rs : List Rec) : Bool := ((fitL me ml rs).length : Int) == (rs.length : Int)
structure AfI (w : World) (L pre : List Rec) (W : World) : Prop where
  pre_ : pre <+: L
  fr : Fr (fun _ => False) w W
  cnt : One W (w.heap.size + 1) 3 (.int .i64 (pre.length : Nat))
theorem fitL_le (rs : List Rec) : ∀ (me ml : Int), (fitL me ml rs).length ≤ rs.length := by
  induction rs with
  | nil => intro me ml; exact Nat.le_refl _
  | cons r rs ih =>
    intro me ml
    unfold fitL
    split
    · simp; exact ih _ _
    · simp
set_option maxRecDepth 100000 in
set_option maxHeartbeats 4000000 in
theorem allFit_any (me ml : Int) (h0l : 0 ≤ ml) (h1l : ml ≤ 1099511627776) (a : Option Addr) (n c : Nat) (rs : List Rec) (hn : n = rs.length) (hbd : ∀ r ∈ rs, r.lsn ≤ 1099511627776) (hfew : rs.length ≤ 1759218604442) (w : World) (h : Recs w a c rs) :
    Calls Try.prog 34 #[.agg #[.int .i64 me, .int .i64 ml], .slice a n c] w fun e w' => e = .returned (.bool (allB me ml rs)) ∧ Fr (fun _ => False) w w' := by
  have f0 : Fr (fun _ => False) w ((w.alloc (.cells #[.int .i64 me, .int .i64 ml] 36)).alloc (.cells #[.int .i64 0] 3)) := (Fr.box _ _).alloc _
  have T0 : Two ((w.alloc (.cells #[.int .i64 me, .int .i64 ml] 36)).alloc (.cells #[.int .i64 0] 3)) w.heap.size 36 (.int .i64 me) (.int .i64 ml) := (Two.new w _ _ _).fr (Fr.box _ _) (fun f => f)
  have C0 : One ((w.alloc (.cells #[.int .i64 me, .int .i64 ml] 36)).alloc (.cells #[.int .i64 0] 3)) (w.heap.size + 1) 3 (.int .i64 0) := by
    have := One.new (w.alloc (.cells #[.int .i64 me, .int .i64 ml] 36)) 3 (.int .i64 0)
    rwa [World.size_alloc] at this
  have hs0 : ((w.alloc (.cells #[.int .i64 me, .int .i64 ml] 36)).alloc (.cells #[.int .i64 0] 3)).heap.size = w.heap.size + 2 := by simp
  have HS : Hid (∀ W, Fr (fun _ => False) w W → Recs W a c rs) := fun W f => h.same f
  have HN : Hid (n = rs.length) := hn
  have HBD : Hid (∀ r ∈ rs, r.lsn ≤ 1099511627776) := hbd
  have hle : n ≤ c := by rw [hn]; exact h.le
  have hmx := h.max
  have hfw : n ≤ 1759218604442 := by omega
  have HAB : Hid (allB me ml rs = (((fitL me ml rs).length : Int) == (rs.length : Int))) := rfl
  obtain ⟨x0, x1, _⟩ := T0.cells
  clear h hn hbd hfew
  refine (callsIn_wide (n := 0)).1 ?_
  refine callsIn_of_wp_marks Try.func34 rfl trivial ?_ rfl
  simp only [Try.ntmps34, List.size_toArray, List.length_cons, List.length_nil, Nat.reduceAdd, Nat.reduceSub, Array.replicate_succ, Array.replicate_zero, List.push_toArray, List.append_toArray, List.nil_append, List.cons_append]
  gi_wp2
  generalize ((w.alloc (.cells #[.int .i64 me, .int .i64 ml] 36)).alloc (.cells #[.int .i64 0] 3)) = V0 at *
  refine ⟨trivial, rfl, (callsIn_wide.2 (fitting_call me ml a n c V0)).mono ?_⟩
  rintro e V ⟨rfl, hV⟩
  have fV0 : Fr (fun _ => False) V0 V := by rw [hV]; exact (Fr.box _ _).alloc _
  have M1 : Two V (w.heap.size + 2) 36 (.int .i64 me) (.int .i64 ml) := by
    rw [hV]
    have := (Two.new V0 36 (.int .i64 me) (.int .i64 ml)).fr (Fr.box _ (.cells #[.slice a n c] 22)) (fun f => f)
    rwa [hs0] at this
  have S1 : One V (w.heap.size + 3) 22 (.slice a n c) := by
    rw [hV]
    have := One.new (V0.alloc (.cells #[.int .i64 me, .int .i64 ml] 36)) 22 (.slice a n c)
    rwa [World.size_alloc, hs0] at this
  have hsV : V.heap.size = w.heap.size + 4 := by rw [hV]; simp [hs0]
  have C1 := C0.fr fV0 (fun f => f)
  have fV := f0.seq' fV0
  rw [hs0]
  have hit := fit_iter a n c rs HN.out HBD.out me ml h0l h1l (w.heap.size + 2) (w.heap.size + 3) (fun q => q < V.heap.size ∧ q ≠ w.heap.size + 1) V ?S ?M ?C
  case S => intro W f; exact HS.out _ (fV.trans f (fun i hi e => e ⟨by omega, by omega⟩))
  case M => intro W f; exact M1.fr f (fun e => e ⟨by omega, by omega⟩)
  case C => intro W f; exact (S1.fr f (fun e => e ⟨by omega, by omega⟩)).cell.1
  clear hV x0 x1 T0 C0 M1 S1 fV0
  gi_wp2
  refine over (gf := 35) (lb := #[.pointer (some ⟨w.heap.size + 2, 0, none⟩), .pointer (some ⟨w.heap.size + 3, 0, none⟩)]) rfl (enters_of Try.func35 (by kernel_rfl) rfl) hit (Fr.refl _ _) (fun _ => rfl)
    (fun _ q => q = w.heap.size + 1) (AfI w (fitL me ml rs)) (fun _ _ _ => False) ?st ?stx ?ol ?bk ?ap ?h0 ?round ?done ?stop
  case st => intro pre A B hI f; exact ⟨hI.pre_, hI.fr.trans f (fun i hi e => by omega), hI.cnt.fr f (by omega)⟩
  case stx => intro cd pre A B hX f; exact hX
  case ol => rintro pre A q hI rfl; exact hI.cnt.lt
  case bk => intro pre A B q _ _ h; exact h
  case ap => rintro pre A q _ rfl; exact ⟨fun e => e.2 rfl, by omega, by omega, by omega⟩
  case h0 => exact ⟨List.nil_prefix, fV, C1⟩
  case round =>
    rintro pre r W hI hpx hz _
    dsimp only
    gi_wp2
    refine ⟨Fr.refl _ _, fun W2 f2 => ?_⟩
    have hI2 : AfI w (fitL me ml rs) pre W2 := ⟨hI.pre_, hI.fr.trans f2 (fun i hi e => by omega), hI.cnt.fr f2 (by omega)⟩
    obtain ⟨c0, c1⟩ := hI2.cnt.cell
    have hpl : pre.length ≤ 1759218604442 := by have := hpx.length_le; have := fitL_le rs me ml; have := HN.out; simp at *; omega
    have hw1 : IntKind.i64.wrap ((pre.length : Int) + 1) = (pre.length : Int) + 1 := by simp [IntKind.wrap, IntKind.bits, IntKind.signed]; omega
    obtain ⟨hc2, fs⟩ := hI2.cnt.set (.int .i64 ((pre.length : Int) + 1))
    have HPX : Hid (pre ++ [r] <+: fitL me ml rs) := hpx
    have hln : (((pre ++ [r]).length : Nat) : Int) = (pre.length : Int) + 1 := by simp
    have HI3 : Hid (AfI w (fitL me ml rs) (pre ++ [r]) (W2.setCell ⟨w.heap.size + 1, 0, none⟩ (.int .i64 ((pre.length : Int) + 1)))) := ⟨HPX.out, hI2.fr.trans fs (fun i hi e => by omega), by rw [hln]; exact hc2⟩
    have HFS : Hid (Fr (fun k => k = w.heap.size + 1) W2 (W2.setCell ⟨w.heap.size + 1, 0, none⟩ (.int .i64 ((pre.length : Int) + 1)))) := fs
    clear hI hpx hc2 fs hln hI2
    gi_wp2
    exact ⟨HFS.out, fun q h => .inl h, HI3.out⟩
  case done =>
    rintro xs W rfl hI hK
    obtain ⟨c0, c1⟩ := hI.cnt.cell
    have fp := Fr.put W V.heap.size (.deferred none)
    have fE : Fr (fun _ => False) w (W.putObj V.heap.size (.deferred none)) := hI.fr.trans fp (fun i hi e => by omega)
    have HAB2 : Hid (allB me ml rs = (((fitL me ml rs).length : Int) == (n : Int))) := by show _ = _; rw [HAB.out, HN.out]
    generalize (fitL me ml rs).length = q at *
    clear hsV
    gi_wp2
    refine ⟨by simp, .inl ⟨_, _, rfl, run_takeDeferred hK, ?_⟩⟩
    exact ⟨.bool ((q : Int) == (n : Int)), by simp [results, Try.results34, go_sem], by rw [HAB2.out], fE⟩
  case stop =>
    rintro cd pre W hX hK
    exact hX.elim
end Go.Proofs.Ytimpoincnfiibaa
