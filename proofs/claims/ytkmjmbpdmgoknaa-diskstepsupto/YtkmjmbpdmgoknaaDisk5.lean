
/- What a disk's Crash does. -/
import Derived.Test.YtkmjmbpdmgoknaaDisk4
namespace Go.Proofs.Ytkmjmbpdmgoknaa
open Go.RowKit
attribute [local go_sem ↓] ld80_eq ld82_eq st80_eq bs75_eq

theorem octs_drop {l : List Nat} (h : octs l) (k : Nat) : octs (l.drop k) := fun x hx => h x (List.mem_of_mem_drop hx)
/-- A sector whose first bytes are another one's. -/
def tear (s t : Sec) (n : Nat) : Sec := ⟨t.1.take n ++ s.1.drop n, by have := s.2.1; have := t.2.1; simp; omega, octs_app (octs_take t.2.2 n) (octs_drop s.2.2 n)⟩
/-- What lasts behind a crash. -/
def crashed (L : List Sec) (Q : List (Nat × Sec)) (keep torn : Nat) : List Sec :=
  match Q[keep]? with
  | none => doAll L (Q.take keep)
  | some q => (doAll L (Q.take keep)).set q.1 (tear ((doAll L (Q.take keep)).getD q.1 zeroSec) q.2 torn)
theorem torn_flat (L : List Sec) (i : Nat) (hi : i < L.length) (t : Sec) (n : Nat) (hn : n ≤ 256) :
    (L.flatMap sc).take (i * 256) ++ cellsOf (t.1.take n) ++ (L.flatMap sc).drop (i * 256 + (cellsOf (t.1.take n)).length) = (L.set i (tear (L.getD i zeroSec) t n)).flatMap sc := by
  have ht := t.2.1
  have hl : (cellsOf (t.1.take n)).length = n := by rw [cellsOf_length, List.length_take]; omega
  have hg : L.getD i zeroSec = L[i] := by rw [List.getD_eq_getElem?_getD, List.getElem?_eq_getElem hi]; rfl
  rw [hl, flat_take sc_length, ← List.drop_drop, flat_drop sc_length, List.drop_eq_getElem_cons hi, List.flatMap_cons, List.drop_append_of_le_length (by rw [sc_length]; omega), List.set_eq_take_append_cons_drop, if_pos hi, List.flatMap_append, List.flatMap_cons, hg]
  have : sc (tear L[i] t n) = cellsOf (t.1.take n) ++ (sc L[i]).drop n := by
    show cellsOf (t.1.take n ++ (L[i]).1.drop n) = _
    rw [cellsOf_append]; simp [sc, cellsOf]
  rw [this]
  simp [List.append_assoc]

section
variable {P : Program}
theorem wp_copy_row {o : Oper} {a : Act} {w : World} {K : Act → World → Prop} {Q : Exit → Act → World → Prop} (x y : Operand) (dT sT : TypeId) (ho : o.op = .call { callee := .builtin .copy, args := #[x, y], argTypes := #[dT, sT] })
    (hu : P.underlying dT = some (.slice 5)) (hs : (P.info? 5).map (·.size) = some 1) (b off dLen dCap : Nat) (ad : Option Addr) (n cap : Nat) (l : List Nat) (hx : a.eval x = .slice (some ⟨b, off, none⟩) dLen dCap) (hy : a.eval y = .slice ad n cap) (hn : n = l.length) (hle : l.length ≤ dLen) (hr : Row w ad cap l) (ht : w.there b off l.length)
    (h : K (a.put o.dst (goInt l.length)) (w.setCells b off (cellsOf l))) : o.wp P a w K Q := by
  subst hn
  have hrun : (Builtin.copy_ #[dT, sT] o.type #[.slice (some ⟨b, off, none⟩) dLen dCap, .slice ad l.length cap]).run P w = .ok (goInt l.length) (w.setCells b off (cellsOf l)) := by
    rcases hr.at_ with h0 | ⟨b', off', rfl, _, hc⟩
    · subst h0
      exact run_copy_none w dT sT _ 5 _ _ dLen dCap 0 cap hu hs (by simp)
    · have := run_copy_cells (P := P) w dT sT o.type 5 b off dLen dCap ⟨b', off', none⟩ l.length cap (cellsOf l) hu hs (by rw [cellsOf_length]; exact (Nat.min_eq_left hle).symm) (fun j v hv => by
        rw [Addr.add_lit]
        have hj : j < l.length := by have := (List.getElem?_eq_some_iff.1 hv).1; rwa [cellsOf_length] at this
        rw [cellsOf_get l j hj] at hv
        rw [hc j hj]; exact hv) (fun j hj => (ht j (by rwa [cellsOf_length] at hj)).1) (fun j hj => (ht j (by rwa [cellsOf_length] at hj)).2) (cellsOf_oneCell l)
      rwa [cellsOf_length] at this
  unfold Oper.wp execOp
  simp only [ho, resolve, invoke, builtin, Sem.run_bind, Sem.run_pure, Result.andThen_ok, List.map_toArray, List.map_cons, List.map_nil, hx, hy, hrun]
  exact h
end

section
variable (db : Nat) (lv wv : Value) (L : List Sec) (Q : List (Nat × Sec)) (w : World)
theorem crash_nil_ok (torn : Nat) (h : torn ≤ 256) : Calls Try.prog 11 #[.pointer none, .int .i64 0, .int .i64 torn] w fun e w' => e = .returned (.int .i64 0) ∧ w' = w := by
  have h1 : (torn : Int) ≤ 256 := by omega
  have hd : decide ((256 : Int) < (torn : Int)) = false := by simpa using h1
  go_enter Try.func11, Try.ntmps11
  go_wp2_with (refine (waits_nil _).mono ?_; rintro e w' ⟨rfl, rfl⟩)
  go_ret
  exact ⟨rfl, rfl⟩
/-- A crash that is refused, of n writes that wait. -/
theorem crash_no (p : Option Addr) (n : Nat) (hw : Calls Try.prog 14 #[.pointer p] w fun e w' => e = .returned (.int .i64 n) ∧ w' = w) (keep torn : Int) (h : keep < 0 ∨ (n : Int) < keep ∨ torn < 0 ∨ 256 < torn) :
    Calls Try.prog 11 #[.pointer p, .int .i64 keep, .int .i64 torn] w fun e w' => e = .returned (.int .i64 1) ∧ w' = w := by
  have HW : Hid (Calls Try.prog 14 #[.pointer p] w fun e w' => e = .returned (.int .i64 n) ∧ w' = w) := hw
  clear hw
  by_cases h1 : keep < 0
  · clear h
    go_enter Try.func11, Try.ntmps11
    go_wp2_with (refine HW.out.mono ?_; rintro e w' ⟨rfl, rfl⟩)
    go_ret
    exact ⟨rfl, rfl⟩
  · have h1' : 0 ≤ keep := by omega
    by_cases h2 : (n : Int) < keep
    · clear h h1
      go_enter Try.func11, Try.ntmps11
      go_wp2_with (refine HW.out.mono ?_; rintro e w' ⟨rfl, rfl⟩)
      go_ret
      exact ⟨rfl, rfl⟩
    · have h2' : keep ≤ (n : Int) := by omega
      have hd2 : decide ((n : Int) < keep) = false := by simpa using h2'
      by_cases h3 : torn < 0
      · clear h h1 h2
        go_enter Try.func11, Try.ntmps11
        go_wp2_with (refine HW.out.mono ?_; rintro e w' ⟨rfl, rfl⟩)
        go_ret
        exact ⟨rfl, rfl⟩
      · have h3' : 0 ≤ torn := by omega
        have h4 : 256 < torn := by omega
        clear h h1 h2 h3
        go_enter Try.func11, Try.ntmps11
        go_wp2_with (refine HW.out.mono ?_; rintro e w' ⟨rfl, rfl⟩)
        go_ret
        exact ⟨rfl, rfl⟩

set_option maxRecDepth 100000 in
set_option maxHeartbeats 1000000 in
theorem crash_ok (h : Dk w db lv wv L Q) (keep torn : Nat) (hk : keep ≤ Q.length) (ht : torn ≤ 256) : Calls Try.prog 11 #[.pointer (some ⟨db, 0, none⟩), .int .i64 keep, .int .i64 torn] w fun e w' => e = .returned (.int .i64 0) ∧
    Dk w' db lv (.slice none 0 0) (crashed L Q keep torn) [] ∧ Fr (dkS db lv wv) w w' := by
  have hk' : (keep : Int) ≤ (Q.length : Int) := by omega
  have ht' : (torn : Int) ≤ 256 := by omega
  have hdk : decide ((Q.length : Int) < (keep : Int)) = false := by simpa using hk'
  have hdt : decide ((256 : Int) < (torn : Int)) = false := by simpa using ht'
  have hdo := do_any db lv wv L Q w h keep hk
  have HC : Hid (crashed L Q keep torn = match Q[keep]? with
    | none => doAll L (Q.take keep)
    | some q => (doAll L (Q.take keep)).set q.1 (tear ((doAll L (Q.take keep)).getD q.1 zeroSec) q.2 torn)) := rfl
  generalize crashed L Q keep torn = C at *
  generalize doAll L (Q.take keep) = M at *
  have HT : Hid (torn ≤ 256) := ht
  have h8' : (Try.prog.info? 5).map (·.size) = some 1 := by kernel_rfl
  have h8 : Hid ((Try.prog.info? 5).map (·.size) = some 1) := h8'
  clear h8'
  clear ht
  go_enter Try.func11, Try.ntmps11
  go_wp2_with fail
  refine (waits_any db lv wv L Q _ h).mono ?_
  rintro e w1 ⟨rfl, rfl⟩
  go_wp2_with fail
  refine hdo.mono ?_
  rintro e w2 ⟨rfl, d2, f2⟩
  clear hdo
  have hb1 := d2.cell1
  have hfb1 := d2.free1
  have F2 : Fr (dkS db lv wv) w1 w2 := f2.mono (fun k _ e => .inr (.inl e))
  by_cases hlt : keep < Q.length
  · obtain ⟨q, hq⟩ : ∃ q, Q[keep]? = some q := ⟨_, List.getElem?_eq_getElem hlt⟩
    have HC2 : Hid (C = M.set q.1 (tear (M.getD q.1 zeroSec) q.2 torn)) := by
      have := HC.out
      rw [hq] at this
      exact this
    obtain ⟨gw, cw, hwv, _, hcw, c0, hr0, hlen⟩ := d2.wait hq
    obtain ⟨gl, cl, hlv, hcl, hgl, _, hth⟩ := d2.last
    have hb0 := d2.cell0
    obtain ⟨at_, s⟩ := q
    simp only at c0 hr0 hlen HC2
    rw [hlv] at hb0
    rw [hwv] at hb1
    have hsl := s.2.1
    have hlt' : (keep : Int) < (Q.length : Int) := by omega
    have hai : (at_ : Int) < (M.length : Int) := by omega
    have hrow : Row w2.drew (some ⟨gw, keep * 257 + 1, none⟩) 256 (s.1.take torn) := by
      have hT := HT.out
      refine ⟨by rw [List.length_take]; omega, by omega, by rw [List.length_take]; omega, octs_take s.2.2 torn, .inr ⟨gw, _, rfl, World.block_lt_of_cell? w2 ⟨gw, keep * 257, none⟩ c0, fun i hi => ?_⟩⟩
      have hi2 : i < s.1.length := by rw [List.length_take] at hi; omega
      have := hr0 i (.int .u8 ((s.1.getD i 0 : Nat) : Int)) (cellsOf_get s.1 i hi2)
      have e : (s.1.take torn).getD i 0 = s.1.getD i 0 := by
        rw [List.getD_eq_getElem?_getD, List.getD_eq_getElem?_getD, List.getElem?_take, if_pos (by rw [List.length_take] at hi; omega)]
      rw [e]; exact this
    have hlt2 : (s.1.take torn).length = torn := by have := HT.out; rw [List.length_take]; omega
    have hthr : w2.drew.there gl (at_ * 256) (s.1.take torn).length := fun j hj => hth at_ hlen j (by have := HT.out; omega)
    have HL : Hid (torn = (s.1.take torn).length) := hlt2.symm
    have d3 : Dk (w2.drew.setCells gl (at_ * 256) (cellsOf (s.1.take torn))) db lv wv C Q := by
      have F : Fr (fun k => k = gl) w2 (w2.drew.setCells gl (at_ * 256) (cellsOf (s.1.take torn))) := Fr.setCells (S := fun k => k = gl) (a := w2) (b := gl) (fun _ => rfl) _ _ (Fr.refl _ w2).drew
      have hT := HT.out
      have hL := HL.out
      have hset := (hlv ▸ (d2.lasts.fr ((Fr.refl (fun _ => False) w2).drew) (fun _ _ f => f))).set (at_ * 256) (cellsOf (s.1.take torn)) (by rw [cellsOf_length, flat_length sc_length]; have := Nat.mul_le_mul_right 256 hlen; omega)
      rw [torn_flat M at_ hlen s torn hT, ← HC2.out] at hset
      have hCl : C.length = M.length := by rw [HC2.out, List.length_set]
      exact ⟨F.block_eq d2.box (fun e => d2.ne1 (by rw [hlv, e]; rfl)), (by rw [hCl, hlv]; exact hset), d2.waits.fr F (fun k hk e => d2.ne3 gl (by rw [hlv]; rfl) (by rw [← e]; exact hk)), d2.ne1, d2.ne2, d2.ne3, (by rw [hCl]; exact d2.at_), (by rw [hCl]; exact d2.pos), (by rw [hCl]; exact d2.top)⟩
    have F3 : Fr (dkS db lv wv) w1 (w2.drew.setCells gl (at_ * 256) (cellsOf (s.1.take torn))) := Fr.setCells (fun _ => .inr (.inl (by rw [hlv]; rfl))) _ _ F2.drew
    have hb3 := d3.cell1
    have hfb3 := d3.free1
    rw [hwv] at hb3
    clear hth hr0 hq hlt2 hsl
    go_wp2
    go_region_law
      ((refine step_of (by rfl) (wp_copy_row _ _ 31 31 (by rfl) Try.underlying31 h8.out gl (at_ * 256) 256 256 (some ⟨gw, keep * 257 + 1, none⟩) torn 256 (s.1.take torn) (by rfl) (by rfl) HL.out (by have := HT.out; have := HL.out; omega) hrow hthr ?_)))
    all_goals
      go_wp2
      go_ret
      exact ⟨rfl, d3.clear, F3.setCell (fun _ => .inl rfl) _⟩
  · have hkq : keep = Q.length := by omega
    have HC2 : Hid (C = M) := by
      have := HC.out
      rw [List.getElem?_eq_none (by omega)] at this
      exact this
    obtain ⟨aw, cw, hwv, _⟩ := d2.waits.slice
    rw [hwv] at hb1
    subst hkq
    clear hlt
    go_wp2
    go_ret
    rw [HC2.out]
    exact ⟨rfl, d2.clear, F2.setCell (fun _ => .inl rfl) _⟩
end
end Go.Proofs.Ytkmjmbpdmgoknaa
