
/- PgArr, PgEnc3, Read4, PgRd. -/
import Derived.Test.YtimpoincnfiibaaSB9
import Derived.Test.YtimpoincnfiibaaSB7
/- An array that a call makes: how it is laid, and what is copied into it. -/
namespace Go.Proofs.Ytimpoincnfiibaa
open Go.RowKit Crcm

section
variable {P : Program}
theorem step_of {ops : Array Oper} {o : Oper} {ac : Act} {w : World} {K : Act → World → Prop} {Q : Exit → Act → World → Prop} {E : Prop} (hgd : o.guard = none) (h : Oper.wp P o ac w K Q) : if Region.wanted o (yielded ops ac.tmps) = true then Oper.wp P o ac w K Q else E := by
  have hw : Region.wanted o (yielded ops ac.tmps) = true := by simp [Region.wanted, hgd]
  rw [if_pos hw]
  exact h
theorem wp_alloc {o : Oper} {a : Act} {w : World} {K : Act → World → Prop} {Q : Exit → Act → World → Prop} (t : TypeId) (ho : o.op = .alloc t) (i : TypeInfo) (z : Value) (hi : P.info? t = some i) (hz : i.zero = some z)
    (h : K (a.put o.dst (.pointer (some ⟨w.heap.size, 0, none⟩))) (w.alloc (.cells z.cells t))) : o.wp P a w K Q := by
  have hzz : (zeroValue t).run P w = .ok z w := by simp [zeroValue, typeInfo, hi, hz]
  have hrun : (Instr.alloc t true (Value.tuple #[])).run P w = .ok (.pointer (some ⟨w.heap.size, 0, none⟩)) (w.alloc (.cells z.cells t)) := by
    simp [Instr.alloc, hzz, newVar, newRow]
  unfold Oper.wp execOp
  simp only [ho, Sem.run_bind, hrun, Result.andThen_ok]
  exact h
theorem wpList_alloc {ops : Array Oper} {rest : List Oper} {o : Oper} {a : Act} {w : World} {Q : Exit → Act → World → Prop} (hgd : o.guard = none) (t : TypeId) (ho : o.op = .alloc t) (i : TypeInfo) (z : Value) (hi : P.info? t = some i) (hz : i.zero = some z)
    (h : wpList P ops Q rest (a.put o.dst (.pointer (some ⟨w.heap.size, 0, none⟩))) (w.alloc (.cells z.cells t))) : wpList P ops Q (o :: rest) a w :=
  wpList_plain hgd fun _ hK => wp_alloc t ho i z hi hz (hK _ _ h)
theorem run_copy_arr (w : World) (ty dT sT : TypeId) (hu : P.underlying dT = some (.slice 5)) (hs : (P.info? 5).map (·.size) = some 1) (b off dLen dCap : Nat) (ad : Option Addr) (n cap : Nat) (l : List Nat) (hn : n = l.length) (hle : l.length ≤ dLen) (hr : Row w ad cap l) (ht : w.there b off l.length) :
    (Builtin.copy_ #[dT, sT] ty #[.slice (some ⟨b, off, none⟩) dLen dCap, .slice ad n cap]).run P w = .ok (goInt l.length) (w.setCells b off (cellsOf l)) := by
  subst hn
  rcases hr.at_ with h0 | ⟨b', off', rfl, _, hc⟩
  · subst h0
    exact run_copy_none w dT sT _ 5 _ _ dLen dCap 0 cap hu hs (by simp)
  · have := run_copy_cells (P := P) w dT sT ty 5 b off dLen dCap ⟨b', off', none⟩ l.length cap (cellsOf l) hu hs (by rw [cellsOf_length]; exact (Nat.min_eq_left hle).symm) (fun j v hv => by
      rw [Addr.add_lit]
      have hj : j < l.length := by have := (List.getElem?_eq_some_iff.1 hv).1; rwa [cellsOf_length] at this
      rw [cellsOf_get l j hj] at hv
      rw [hc j hj]; exact hv) (fun j hj => (ht j (by rwa [cellsOf_length] at hj)).1) (fun j hj => (ht j (by rwa [cellsOf_length] at hj)).2) (cellsOf_oneCell l)
    rwa [cellsOf_length] at this
end

def z256 : List Nat := List.replicate 256 0
theorem z256_length : z256.length = 256 := List.length_replicate
theorem z256_drop (k : Nat) : z256.drop k = List.replicate (256 - k) 0 := List.drop_replicate
theorem z256_octs : octs z256 := fun x hx => by have := (List.mem_replicate.1 hx).2; omega
/-- A slice over a whole array of so many bytes. -/
abbrev Arr (w : World) (g : Nat) (l : List Nat) : Prop := Has w 1 (.slice (some ⟨g, 0, none⟩) 256 256) 256 (cellsOf l)
theorem Arr.new (w : World) (t : TypeId) (l : List Nat) (hl : l.length = 256) : Arr (w.alloc (.cells (cellsOf l).toArray t)) w.heap.size l := by
  refine ⟨by rw [cellsOf_length, hl], .inr ⟨w.heap.size, 256, rfl, by simp, Nat.le_refl _, by unfold maxLen; omega, ?_, ?_⟩⟩
  · exact there_block (heap_alloc_new w _) (by simp [cellsOf_length, hl])
  · exact range_block (heap_alloc_new w _) (fun j v hv => by rw [Nat.zero_add]; simpa using hv)
theorem Arr.length {w : World} {g : Nat} {l : List Nat} (h : Arr w g l) : l.length = 256 := by have := h.1; rw [cellsOf_length] at this; omega
theorem Arr.there {w : World} {g : Nat} {l : List Nat} (h : Arr w g l) : w.there g 0 256 := by
  rcases h.2 with ⟨e, _⟩ | ⟨g', cap, e, _, _, _, ht, _⟩
  · cases e
  · simp only [Value.slice.injEq, Option.some.injEq, Addr.mk.injEq, and_true, true_and] at e
    obtain ⟨rfl, rfl⟩ := e
    simpa using ht
theorem Arr.lt {w : World} {g : Nat} {l : List Nat} (h : Arr w g l) : g < w.heap.size := Has.lt h rfl
theorem Arr.range {w : World} {g : Nat} {l : List Nat} (h : Arr w g l) : w.rangeAt g 0 (cellsOf l) := by
  rcases h.2 with ⟨e, _⟩ | ⟨g', cap, e, _, _, _, _, hr⟩
  · cases e
  · simp only [Value.slice.injEq, Option.some.injEq, Addr.mk.injEq, and_true, true_and] at e
    obtain ⟨rfl, rfl⟩ := e
    exact hr
theorem Arr.row {w : World} {g : Nat} {l : List Nat} (h : Arr w g l) (ho : octs l) (k : Nat) (hk : k ≤ 256) (cap : Nat) (hc : k ≤ cap) (hc2 : cap ≤ 256) : Row w (some ⟨g, 0, none⟩) cap (l.take k) := by
  have hl := h.length
  refine ⟨by simp; omega, by omega, by simp; omega, octs_take ho k, .inr ⟨g, 0, rfl, h.lt, fun i hi => ?_⟩⟩
  rw [List.length_take] at hi
  have := h.range i (.int .u8 ((l.getD i 0 : Nat) : Int)) (cellsOf_get l i (by omega))
  rw [this, List.getD_eq_getElem?_getD, List.getD_eq_getElem?_getD, List.getElem?_take, if_pos (by omega)]
theorem Arr.set {w : World} {g : Nat} {l : List Nat} (h : Arr w g l) (k : Nat) (m : List Nat) (hm : k + m.length ≤ 256) : Arr (w.setCells g k (cellsOf m)) g (l.take k ++ m ++ l.drop (k + m.length)) := by
  have hl := h.length
  have := Has.set h k (cellsOf m) (by rw [cellsOf_length, cellsOf_length, hl]; exact hm)
  rw [cellsOf_length] at this
  unfold Arr
  rw [cellsOf_append, cellsOf_append]
  simpa [cellsOf, List.map_take, List.map_drop] using this
end Go.Proofs.Ytimpoincnfiibaa

/- What page.Encode makes. -/
namespace Go.Proofs.Ytimpoincnfiibaa
open Go.RowKit Crcm

theorem pad_is (l : List Nat) (h : l.length ≤ 252) : (z256.take 0 ++ l ++ z256.drop (0 + l.length)).take 252 = pad l := by
  rw [z256_drop, List.take_zero, List.nil_append, pad, List.take_append, List.take_of_length_le h, List.take_replicate]
  congr 2; omega
theorem pg_is (l : List Nat) (h : l.length ≤ 252) (t : List Nat) (ht : t.length = 4) : (z256.take 0 ++ l ++ z256.drop (0 + l.length)).take 252 ++ t ++ (z256.take 0 ++ l ++ z256.drop (0 + l.length)).drop (252 + t.length) = pad l ++ t := by
  rw [pad_is l h]
  have : ((z256.take 0 ++ l ++ z256.drop (0 + l.length)).drop (252 + t.length)) = [] := List.drop_eq_nil_of_le (by rw [z256_drop]; simp; omega)
  rw [this, List.append_nil]

theorem Fr.set_new {W0 W : World} (f : Fr (fun _ => False) W0 W) {g : Nat} (hg : W0.heap.size ≤ g) (vs : List Value) (o : Nat) : Fr (fun _ => False) W0 (W.setCells g o vs) :=
  Fr.setCells (S := fun _ => False) (b := g) (fun hh => absurd hh (by omega)) vs o f
theorem Arr.some {w : World} {g : Nat} {l : List Nat} (h : Arr w g l) (k n : Nat) (hn : k + n ≤ 256) : w.there g k n := fun j hj => by
  have := h.there (k + j) (by omega)
  simpa using this

end Go.Proofs.Ytimpoincnfiibaa

/- What the reader's calls tell, each in one form: by a plain function of what is left and the reader's error. -/
namespace Go.Proofs.Ytimpoincnfiibaa
open Go.RowKit

/-- A reader's state: what is left, and its error. -/
abbrev RS : Type := List Nat × Int
def sizedP (s : Int) : Prop := s = 1 ∨ s = 2 ∨ s = 4 ∨ s = 8
/-- Num: the number, what is told, the state behind. -/
def numS (st : RS) (size : Int) : Int × Int × RS :=
  if ¬ (size = 1 ∨ size = 2 ∨ size = 4 ∨ size = 8) then (0, 1, st)
  else if ¬ st.2 = 0 then (0, st.2, st)
  else if (st.1.length : Int) < size then (0, 10, (st.1, 10))
  else if 9223372036854775808 ≤ val (st.1.take size.toNat) then (0, 1, (st.1, 1))
  else ((val (st.1.take size.toNat) : Int), 0, (st.1.drop size.toNat, 0))
/-- Text: the text's bytes, what is told, the state behind. -/
def textS (st : RS) (most : Int) : List Nat × Int × RS :=
  if most < 0 then ([], 1, st)
  else if ¬ st.2 = 0 then ([], st.2, st)
  else if st.1.length < 2 then ([], 10, (st.1, 10))
  else if st.1.length < 2 + val (st.1.take 2) then ([], 10, (st.1, 10))
  else if most < val (st.1.take 2) then ([], 2, (st.1, 2))
  else ((st.1.drop 2).take (val (st.1.take 2)), 0, (st.1.drop (2 + val (st.1.take 2)), 0))

/-- Where a reader's bytes lie behind a call: where they lay, or nowhere. -/
def Near (a a' : Option Addr) : Prop := ∀ b off sp, a' = some ⟨b, off, sp⟩ → ∃ o s, a = some ⟨b, o, s⟩
theorem Near.refl (a : Option Addr) : Near a a := fun _ off sp e => ⟨off, sp, e⟩

theorem rnum_all (size : Int) (rb : Nat) (a : Option Addr) (cap : Nat) (st : RS) (w : World) (h : Rd w rb a cap st.1 st.2) :
    Calls Try.prog 69 #[.pointer (some ⟨rb, 0, none⟩), .int .i64 size] w fun e w' => e = .returned (.tuple #[.int .i64 (numS st size).1, .int .i64 (numS st size).2.1]) ∧
      ∃ a' c', Rd w' rb a' c' (numS st size).2.2.1 (numS st size).2.2.2 ∧ Fr (fun k => k = rb) w w' ∧ Near a a' := by
  obtain ⟨l, err⟩ := st
  by_cases hs : size = 1 ∨ size = 2 ∨ size = 4 ∨ size = 8
  · obtain ⟨sz, rfl⟩ := Int.eq_ofNat_of_zero_le (a := size) (by omega)
    by_cases he : err = 0
    · subst he
      by_cases hlt : l.length < sz
      · have e : numS (l, 0) sz = (0, 10, (l, 10)) := by unfold numS; rw [if_neg (not_not_intro hs), if_neg (by simp), if_pos (by simpa using hlt)]
        rw [e]
        refine (rnum_cut sz hs rb a cap l hlt w h).mono ?_
        rintro e w' ⟨rfl, hrd, hf⟩
        exact ⟨rfl, a, cap, hrd, hf, Near.refl a⟩
      · by_cases hv : 9223372036854775808 ≤ val (l.take sz)
        · have e : numS (l, 0) sz = (0, 1, (l, 1)) := by unfold numS; rw [if_neg (not_not_intro hs), if_neg (by simp), if_neg (by simpa using hlt), if_pos (by simpa using hv)]
          rw [e]
          refine (rnum_big sz hs rb a cap l (by omega) hv w h).mono ?_
          rintro e w' ⟨rfl, hrd, hf⟩
          exact ⟨rfl, a, cap, hrd, hf, Near.refl a⟩
        · have e : numS (l, 0) sz = ((val (l.take sz) : Int), 0, (l.drop sz, 0)) := by unfold numS; rw [if_neg (not_not_intro hs), if_neg (by simp), if_neg (by simpa using hlt), if_neg (by simpa using hv)]; rfl
          rw [e]
          refine (rnum_ok sz hs rb a cap l (by omega) (by omega) w h).mono ?_
          rintro e w' ⟨rfl, a', c', hrd, hf, hn⟩
          exact ⟨rfl, a', c', hrd, hf, hn⟩
    · have e : numS (l, err) sz = (0, err, (l, err)) := by unfold numS; rw [if_neg (not_not_intro hs), if_pos (by simpa using he)]
      rw [e]
      refine (rnum_stop sz hs rb a cap l err he w h).mono ?_
      rintro e w' ⟨rfl, rfl⟩
      exact ⟨rfl, a, cap, h, Fr.refl _ _, Near.refl a⟩
  · have e : numS (l, err) size = (0, 1, (l, err)) := by unfold numS; rw [if_pos hs]
    rw [e]
    refine (rnum_arg (some ⟨rb, 0, none⟩) size (fun e => hs (.inl e)) (fun e => hs (.inr (.inl e))) (fun e => hs (.inr (.inr (.inl e)))) (fun e => hs (.inr (.inr (.inr e)))) w).mono ?_
    rintro e w' ⟨rfl, rfl⟩
    exact ⟨rfl, a, cap, h, Fr.refl _ _, Near.refl a⟩

theorem rtext_all (most : Int) (rb : Nat) (a : Option Addr) (cap : Nat) (st : RS) (w : World) (h : Rd w rb a cap st.1 st.2) :
    Calls Try.prog 83 #[.pointer (some ⟨rb, 0, none⟩), .int .i64 most] w fun e w' => e = .returned (.tuple #[.string (strOf (textS st most).1), .int .i64 (textS st most).2.1]) ∧
      ∃ a' c', Rd w' rb a' c' (textS st most).2.2.1 (textS st most).2.2.2 ∧ Fr (fun k => k = rb) w w' ∧ Near a a' := by
  obtain ⟨l, err⟩ := st
  by_cases hm : most < 0
  · have e : textS (l, err) most = ([], 1, (l, err)) := by unfold textS; rw [if_pos hm]
    rw [e]
    refine (rtext_arg (some ⟨rb, 0, none⟩) most hm w).mono ?_
    rintro e w' ⟨rfl, rfl⟩
    exact ⟨rfl, a, cap, h, Fr.refl _ _, Near.refl a⟩
  · by_cases he : err = 0
    · subst he
      by_cases h2 : l.length < 2
      · have e : textS (l, 0) most = ([], 10, (l, 10)) := by unfold textS; rw [if_neg hm, if_neg (by simp), if_pos h2]
        rw [e]
        refine (rtext_cut0 most hm rb a cap l h2 w h).mono ?_
        rintro e w' ⟨rfl, hrd, hf⟩
        exact ⟨rfl, a, cap, hrd, hf, Near.refl a⟩
      · by_cases hv : l.length < 2 + val (l.take 2)
        · have e : textS (l, 0) most = ([], 10, (l, 10)) := by unfold textS; rw [if_neg hm, if_neg (by simp), if_neg h2, if_pos hv]
          rw [e]
          refine (rtext_bad most hm rb a cap l (by omega) 10 (.inl ⟨hv, rfl⟩) w h).mono ?_
          rintro e w' ⟨rfl, hrd, hf⟩
          exact ⟨rfl, a, cap, hrd, hf, Near.refl a⟩
        · by_cases hlong : most < val (l.take 2)
          · have e : textS (l, 0) most = ([], 2, (l, 2)) := by unfold textS; rw [if_neg hm, if_neg (by simp), if_neg h2, if_neg hv, if_pos hlong]
            rw [e]
            refine (rtext_bad most hm rb a cap l (by omega) 2 (.inr ⟨by omega, hlong, rfl⟩) w h).mono ?_
            rintro e w' ⟨rfl, hrd, hf⟩
            exact ⟨rfl, a, cap, hrd, hf, Near.refl a⟩
          · have e : textS (l, 0) most = ((l.drop 2).take (val (l.take 2)), 0, (l.drop (2 + val (l.take 2)), 0)) := by unfold textS; rw [if_neg hm, if_neg (by simp), if_neg h2, if_neg hv, if_neg hlong]
            rw [e]
            refine (rtext_ok most hm rb a cap l (by omega) (by omega) w h).mono ?_
            rintro e w' ⟨rfl, a', c', hrd, hf, hn⟩
            exact ⟨rfl, a', c', hrd, hf, hn⟩
    · have e : textS (l, err) most = ([], err, (l, err)) := by unfold textS; rw [if_neg hm, if_pos (by simpa using he)]
      rw [e]
      refine (rtext_stop most hm rb a cap l err he w h).mono ?_
      rintro e w' ⟨rfl, rfl⟩
      exact ⟨rfl, a, cap, h, Fr.refl _ _, Near.refl a⟩
end Go.Proofs.Ytimpoincnfiibaa

/- What page's reader tells: num and text, by plain functions of what is left, the error, and whether one failed. -/
namespace Go.Proofs.Ytimpoincnfiibaa
open Go.RowKit Crcm

/-- A reader's state: what is left, its error, and whether something could not be read. -/
abbrev RF : Type := RS × Bool
def numF (s : RF) (size : Int) : Int × RF := ((numS s.1 size).1, ((numS s.1 size).2.2, s.2 || decide ((numS s.1 size).2.1 ≠ 0)))
def textF (s : RF) (most : Int) : ByteArray × RF := (strOf (textS s.1 most).1, ((textS s.1 most).2.2, s.2 || decide ((textS s.1 most).2.1 ≠ 0)))

/-- Page's reader at block qb over wire's at block rb. -/
structure Rr (w : World) (qb rb : Nat) (a : Option Addr) (cap : Nat) (s : RF) : Prop where
  box : w.heap[qb]? = some (.cells #[.pointer (some ⟨rb, 0, none⟩), .bool s.2] 106 (0, 0))
  rd : Rd w rb a cap s.1.1 s.1.2
  ne : qb ≠ rb
  far : ∀ b off sp, a = some ⟨b, off, sp⟩ → b ≠ qb
def rrS (qb rb : Nat) : Nat → Prop := fun k => k = qb ∨ k = rb
theorem Rr.fr {S : Nat → Prop} {w w' : World} {qb rb : Nat} {a : Option Addr} {cap : Nat} {s : RF} (h : Rr w qb rb a cap s) (f : Fr S w w') (h1 : ¬ S qb) (h2 : ¬ S rb) (h3 : ∀ b off sp, a = some ⟨b, off, sp⟩ → ¬ S b) : Rr w' qb rb a cap s :=
  ⟨by rw [f.block qb (lt_of_block h.box) h1]; exact h.box, ⟨by rw [f.block rb (lt_of_block h.rd.box) h2]; exact h.rd.box, h.rd.row.fr f h3, h.rd.far⟩, h.ne, h.far⟩
theorem Rr.same {w w' : World} {qb rb : Nat} {a : Option Addr} {cap : Nat} {s : RF} (h : Rr w qb rb a cap s) (f : Fr (fun _ => False) w w') : Rr w' qb rb a cap s := h.fr f (fun f => f) (fun f => f) (fun _ _ _ _ f => f)

theorem or_ne {e : Int} : (e != 0) = decide (e ≠ 0) := by
  rw [Bool.eq_iff_iff]; simp
set_option maxRecDepth 100000 in
set_option maxHeartbeats 1000000 in
theorem pnum_any (size : Int) (qb rb : Nat) (a : Option Addr) (cap : Nat) (s : RF) (w : World) (h : Rr w qb rb a cap s) :
    Calls Try.prog 71 #[.pointer (some ⟨qb, 0, none⟩), .int .i64 size] w fun e w' => e = .returned (.int .i64 (numF s size).1) ∧
      ∃ a' c', Rr w' qb rb a' c' (numF s size).2 ∧ Fr (rrS qb rb) w w' ∧ Near a a' := by
  obtain ⟨h0, h1, g0, g1⟩ := cell_of_two h.box
  have HN := rnum_all size rb a cap s.1 w h.rd
  obtain ⟨st, fl⟩ := s
  simp only at h0 h1 HN
  have HF : Hid (numF (st, fl) size = ((numS st size).1, ((numS st size).2.2, fl || decide ((numS st size).2.1 ≠ 0)))) := rfl
  rw [HF.out]
  obtain ⟨x, hx⟩ : ∃ x, x = (numS st size).1 := ⟨_, rfl⟩
  obtain ⟨er, her⟩ : ∃ x, x = (numS st size).2.1 := ⟨_, rfl⟩
  obtain ⟨st', hst⟩ : ∃ x, x = (numS st size).2.2 := ⟨_, rfl⟩
  rw [← hx, ← her, ← hst] at HN ⊢
  clear hx her hst HF
  have hq := lt_of_block h.box
  cases fl with
  | true =>
    go_enter Try.func71, Try.ntmps71
    go_wp2_with fail
    refine HN.mono ?_
    rintro e w1 ⟨rfl, a1, c1, r1, f1, n1⟩
    have hb1 : w1.heap[qb]? = some (.cells #[.pointer (some ⟨rb, 0, none⟩), .bool true] 106 (0, 0)) := by rw [f1.block qb hq h.ne]; exact h.box
    obtain ⟨k0, k1, k2, k3⟩ := cell_of_two hb1
    have f2 : Fr (fun k => k = qb) w1 (w1.setCell ⟨qb, 1, none⟩ (.bool true)) := (Fr.refl (fun k => k = qb) w1).setCell (p := ⟨qb, 1, none⟩) (fun _ => rfl) _
    go_wp2
    go_ret
    refine ⟨rfl, a1, c1, ⟨two_setCell1 hb1, ⟨by rw [f2.block rb (lt_of_block r1.box) (fun e => h.ne e.symm)]; exact r1.box, r1.row.fr f2 (fun b off sp e => by obtain ⟨o, t, e2⟩ := n1 b off sp e; exact h.far b o t e2), r1.far⟩, h.ne, fun b off sp e => by obtain ⟨o, t, e2⟩ := n1 b off sp e; exact h.far b o t e2⟩, (f1.mono (fun i _ e => .inr e)).trans f2 (fun i _ e => .inl e), n1⟩
  | false =>
    go_enter Try.func71, Try.ntmps71
    go_wp2_with fail
    refine HN.mono ?_
    rintro e w1 ⟨rfl, a1, c1, r1, f1, n1⟩
    have hb1 : w1.heap[qb]? = some (.cells #[.pointer (some ⟨rb, 0, none⟩), .bool false] 106 (0, 0)) := by rw [f1.block qb hq h.ne]; exact h.box
    obtain ⟨k0, k1, k2, k3⟩ := cell_of_two hb1
    have f2 : Fr (fun k => k = qb) w1 (w1.setCell ⟨qb, 1, none⟩ (.bool (decide (er ≠ 0)))) := (Fr.refl (fun k => k = qb) w1).setCell (p := ⟨qb, 1, none⟩) (fun _ => rfl) _
    have OE : Hid ((er != 0) = decide (er ≠ 0)) := or_ne
    go_wp2
    rw [OE.out]
    go_ret
    refine ⟨rfl, a1, c1, ⟨by rw [Bool.false_or]; exact two_setCell1 hb1, ⟨by rw [f2.block rb (lt_of_block r1.box) (fun e => h.ne e.symm)]; exact r1.box, r1.row.fr f2 (fun b off sp e => by obtain ⟨o, t, e2⟩ := n1 b off sp e; exact h.far b o t e2), r1.far⟩, h.ne, fun b off sp e => by obtain ⟨o, t, e2⟩ := n1 b off sp e; exact h.far b o t e2⟩, (f1.mono (fun i _ e => .inr e)).trans f2 (fun i _ e => .inl e), n1⟩
set_option maxRecDepth 100000 in
set_option maxHeartbeats 1000000 in
theorem ptext_any (most : Int) (qb rb : Nat) (a : Option Addr) (cap : Nat) (s : RF) (w : World) (h : Rr w qb rb a cap s) :
    Calls Try.prog 72 #[.pointer (some ⟨qb, 0, none⟩), .int .i64 most] w fun e w' => e = .returned (.string (textF s most).1) ∧
      ∃ a' c', Rr w' qb rb a' c' (textF s most).2 ∧ Fr (rrS qb rb) w w' ∧ Near a a' := by
  obtain ⟨h0, h1, g0, g1⟩ := cell_of_two h.box
  have HN := rtext_all most rb a cap s.1 w h.rd
  obtain ⟨st, fl⟩ := s
  simp only at h0 h1 HN
  have HF : Hid (textF (st, fl) most = (strOf (textS st most).1, ((textS st most).2.2, fl || decide ((textS st most).2.1 ≠ 0)))) := rfl
  rw [HF.out]
  obtain ⟨x, hx⟩ : ∃ x, x = strOf (textS st most).1 := ⟨_, rfl⟩
  obtain ⟨er, her⟩ : ∃ x, x = (textS st most).2.1 := ⟨_, rfl⟩
  obtain ⟨st', hst⟩ : ∃ x, x = (textS st most).2.2 := ⟨_, rfl⟩
  rw [← hx, ← her, ← hst] at HN ⊢
  clear hx her hst HF
  have hq := lt_of_block h.box
  cases fl with
  | true =>
    go_enter Try.func72, Try.ntmps72
    go_wp2_with fail
    refine HN.mono ?_
    rintro e w1 ⟨rfl, a1, c1, r1, f1, n1⟩
    have hb1 : w1.heap[qb]? = some (.cells #[.pointer (some ⟨rb, 0, none⟩), .bool true] 106 (0, 0)) := by rw [f1.block qb hq h.ne]; exact h.box
    obtain ⟨k0, k1, k2, k3⟩ := cell_of_two hb1
    have f2 : Fr (fun k => k = qb) w1 (w1.setCell ⟨qb, 1, none⟩ (.bool true)) := (Fr.refl (fun k => k = qb) w1).setCell (p := ⟨qb, 1, none⟩) (fun _ => rfl) _
    go_wp2
    go_ret
    refine ⟨rfl, a1, c1, ⟨two_setCell1 hb1, ⟨by rw [f2.block rb (lt_of_block r1.box) (fun e => h.ne e.symm)]; exact r1.box, r1.row.fr f2 (fun b off sp e => by obtain ⟨o, t, e2⟩ := n1 b off sp e; exact h.far b o t e2), r1.far⟩, h.ne, fun b off sp e => by obtain ⟨o, t, e2⟩ := n1 b off sp e; exact h.far b o t e2⟩, (f1.mono (fun i _ e => .inr e)).trans f2 (fun i _ e => .inl e), n1⟩
  | false =>
    go_enter Try.func72, Try.ntmps72
    go_wp2_with fail
    refine HN.mono ?_
    rintro e w1 ⟨rfl, a1, c1, r1, f1, n1⟩
    have hb1 : w1.heap[qb]? = some (.cells #[.pointer (some ⟨rb, 0, none⟩), .bool false] 106 (0, 0)) := by rw [f1.block qb hq h.ne]; exact h.box
    obtain ⟨k0, k1, k2, k3⟩ := cell_of_two hb1
    have f2 : Fr (fun k => k = qb) w1 (w1.setCell ⟨qb, 1, none⟩ (.bool (decide (er ≠ 0)))) := (Fr.refl (fun k => k = qb) w1).setCell (p := ⟨qb, 1, none⟩) (fun _ => rfl) _
    have OE : Hid ((er != 0) = decide (er ≠ 0)) := or_ne
    go_wp2
    rw [OE.out]
    go_ret
    refine ⟨rfl, a1, c1, ⟨by rw [Bool.false_or]; exact two_setCell1 hb1, ⟨by rw [f2.block rb (lt_of_block r1.box) (fun e => h.ne e.symm)]; exact r1.box, r1.row.fr f2 (fun b off sp e => by obtain ⟨o, t, e2⟩ := n1 b off sp e; exact h.far b o t e2), r1.far⟩, h.ne, fun b off sp e => by obtain ⟨o, t, e2⟩ := n1 b off sp e; exact h.far b o t e2⟩, (f1.mono (fun i _ e => .inr e)).trans f2 (fun i _ e => .inl e), n1⟩
end Go.Proofs.Ytimpoincnfiibaa
