
/- FdGvs, FdRCmp, FdIsM, FdBeh. -/
import Derived.Test.YthdbkanbgfajbaaGreatTB10
import Derived.Laws.StructEq
import Derived.Deep.QuietTactic
import Derived.BigQuiet
import Derived.Test.YthdbkanbgfajbaaGreatTB5
import Derived.Test.YthdbkanbgfajbaaGreatTB6
/- Whether an operation gives a result: slices.Equal of entries, hasJust, gives. -/
namespace Go.Proofs.YthdbkanbgfajbaaGreat
open Go.RowKit Go.Shelf

theorem neq_ent2 (x y x' y' : ByteArray) (w : World) : (binOp .neq 107 (.agg #[.string x, .string y]) (.agg #[.string x', .string y'])).run Tryz.prog w = .ok (.bool (decide (((x, y) : En) ≠ (x', y')))) w := by
  have hf : Tryz.prog.stoodInHeld 107 = false := by kernel_rfl
  have hu : Tryz.prog.underlying 107 = some (.struct (Tryz.prog.fieldsOf 107)) := by kernel_rfl
  have hd : decide (((x, y) : En) ≠ (x', y')) = !((x.toList == x'.toList) && (y.toList == y'.toList)) := by
    rw [beq_bytes, beq_bytes]
    by_cases h1 : x = x' <;> by_cases h2 : y = y' <;> simp [h1, h2]
  rw [hd, run_neq_struct, run_equalIn_struct _ _ _ _ _ hu hf]
  by_cases h1 : x.toList = x'.toList <;> by_cases h2 : y.toList = y'.toList <;> simp [Op.eqFields, go_sem, h1, h2]
theorem en_inj {L M : List En} {k : Nat} {e f : En} (hl : L[k]? = some e) (hm : M[k]? = some f) (h : e ≠ f) : L ≠ M := fun he => by rw [he, hm] at hl; cases hl; exact h rfl
set_option maxRecDepth 100000 in
set_option maxHeartbeats 4000000 in
theorem equal_any (a1 a2 : Option Addr) (n1 n2 c1 c2 : Nat) (L M : List En) (h1 : n1 = L.length) (h2 : n2 = M.length) (w : World) (r1 : Ens w a1 c1 L) (r2 : Ens w a2 c2 M) :
    Calls Tryz.prog 66 #[.slice a1 n1 c1, .slice a2 n2 c2] w fun e w' => e = .returned (.bool (decide (L = M))) ∧ Fr (fun _ => False) w w' := by
  have l1 : n1 ≤ c1 := by rw [h1]; exact r1.le
  have m1 := r1.max
  have l2 : n2 ≤ c2 := by rw [h2]; exact r2.le
  have m2 := r2.max
  have HS1 : Hid (∀ W, Fr (fun _ => False) w W → Ens W a1 c1 L) := fun W f => r1.same f
  have HS2 : Hid (∀ W, Fr (fun _ => False) w W → Ens W a2 c2 M) := fun W f => r2.same f
  have HN1 : Hid (n1 = L.length) := h1
  have HN2 : Hid (n2 = M.length) := h2
  clear r1 r2 h1 h2
  by_cases hnn : n1 = n2
  · subst hnn
    go_enter Tryz.func66, Tryz.ntmps66
    go_wp2
    go_loopw [13] (fun i wr => ∃ k : Nat, k ≤ n1 ∧ i = .int .i64 k ∧ Hid (L.take k = M.take k) ∧ Fr (fun _ => False) w wr) (fun i _ => n1 - (intOf i).toNat)
    case atStart => exact ⟨0, by omega, rfl, rfl, Fr.refl _ _⟩
    case round =>
      obtain ⟨k, hk, rfl, HE, F⟩ := hrel
      by_cases hlt : k < n1
      · obtain ⟨g1, o1, e1, hb1, hc1⟩ := (HS1.out _ F).some (by have := HN1.out; omega)
        obtain ⟨g2, o2, e2, hb2, hc2⟩ := (HS2.out _ F).some (by have := HN2.out; omega)
        obtain ⟨⟨x, y⟩, hx⟩ : ∃ e, L[k]? = some e := ⟨_, List.getElem?_eq_getElem (by have := HN1.out; omega)⟩
        obtain ⟨⟨x', y'⟩, hx'⟩ : ∃ e, M[k]? = some e := ⟨_, List.getElem?_eq_getElem (by have := HN2.out; omega)⟩
        obtain ⟨k1, k2⟩ := hc1 k _ hx
        obtain ⟨k3, k4⟩ := hc2 k _ hx'
        dsimp only at k1 k2 k3 k4
        have HY : Hid (((x, y) : En) = (x', y') → L.take (k + 1) = M.take (k + 1)) := fun h => by show _ = _; rw [take_snocH hx, take_snocH hx', HE.out, h]
        have HNO : Hid (((x, y) : En) ≠ (x', y') → decide (L = M) = false) := fun h => decide_eq_false (en_inj hx hx' h)
        have hnq := fun W => neq_ent2 x y x' y' W
        clear hx hx' hc1 hc2
        subst e1 e2
        have i1 : (k : Int) < (n1 : Int) := by omega
        by_cases hxy : ((x, y) : En) = (x', y')
        · have hd : decide (((x, y) : En) ≠ (x', y')) = false := decide_eq_false (fun h => h hxy)
          rw [hd] at hnq
          have HY2 : Hid (L.take (k + 1) = M.take (k + 1)) := HY.out hxy
          clear HY HNO hxy hd
          go_wp2
          go_quiet (fail)
          go_wp2
          go_roundw
          case rel => exact ⟨k + 1, by omega, by go_num, HY2, F.drewN _⟩
          case measure => simp [intOf]; omega
        · have hd : decide (((x, y) : En) ≠ (x', y')) = true := decide_eq_true hxy
          rw [hd] at hnq
          have HF : Hid (decide (L = M) = false) := HNO.out hxy
          clear HY HNO hxy hd
          go_wp2
          go_quiet (fail)
          go_wp2
          go_ret
          exact ⟨ret_bool HF.out.symm, F.drewN _⟩
      · obtain rfl : k = n1 := by omega
        have HT : Hid (decide (L = M) = true) := by
          refine decide_eq_true ?_
          have := HE.out
          rwa [List.take_of_length_le (by have := HN1.out; omega), List.take_of_length_le (by have := HN2.out; omega)] at this
        go_wp2
        go_ret
        exact ⟨ret_bool HT.out.symm, F⟩
  · have HF : Hid (decide (L = M) = false) := decide_eq_false (fun h => hnn (by rw [HN1.out, HN2.out, h]))
    have hnn' : ((n1 : Int) != (n2 : Int)) = true := by simp; omega
    have hnn'' : ¬ (n1 : Int) = (n2 : Int) := by omega
    go_enter Tryz.func66, Tryz.ntmps66
    go_wp2
    go_ret
    exact ⟨ret_bool HF.out.symm, Fr.refl _ _⟩
/-- Whether an entry is in a list, whether all are. -/
def inB (L : List En) (e : En) : Bool := L.any (fun x => decide (x = e))
theorem inB_iff {L : List En} {e : En} : inB L e = true ↔ e ∈ L := by
  unfold inB
  rw [List.any_eq_true]
  constructor
  · rintro ⟨x, hx, h⟩
    rw [decide_eq_true_eq] at h
    rw [← h]; exact hx
  · intro h; exact ⟨e, h, by simp⟩
theorem inB_not {L : List En} {e : En} : inB L e = false ↔ e ∉ L := by
  rw [← inB_iff]; simp
theorem allB_yes {L X : List En} (h : ∀ e ∈ X, e ∈ L) : X.all (inB L) = true := List.all_eq_true.2 (fun e he => inB_iff.2 (h e he))
theorem allB_no {L X : List En} {e : En} (he : e ∈ X) (h : e ∉ L) : X.all (inB L) = false := by
  rw [← Bool.not_eq_true, List.all_eq_true]
  exact fun ha => h (inB_iff.1 (ha e he))
set_option maxRecDepth 100000 in
set_option maxHeartbeats 4000000 in
theorem lacks_any (b : Nat) (L : List En) (e : En) (he : e.1.size ≤ maxLen) (q : Bool) (hq : (!inB L e) = q) (w : World) (h : Em w b L) :
    Calls Tryz.prog 79 #[.map (some b), .agg #[.string e.1, .string e.2]] w fun o w' => o = .returned (.bool q) ∧ Fr (fun _ => False) w w' := by
  obtain ⟨x, y⟩ := e
  dsimp only at he ⊢
  have HQ : Hid ((!inB L (x, y)) = q) := hq
  clear hq
  have fb := Fr.box w (.cells #[.string x, .string y] 107)
  have hlk := (h.same fb).look (x := x) he
  have hiff : (x, y) ∈ L ↔ fnd L x = some (x, y) := by rw [fnd_iff h.ris]; simp
  have hz := h.lt
  cases hf : fnd L x with
  | none =>
    rw [hf] at hlk hiff
    dsimp only [Option.getD_none, Option.isSome_none] at hlk
    have HR : Hid (true = q) := by
      show _ = _
      rw [← HQ.out, inB_not.2 (fun hm => by have := hiff.1 hm; cases this)]; rfl
    clear h hf hiff HQ
    go_enter Tryz.func79, Tryz.ntmps79
    go_wp2
    go_ret
    exact ⟨ret_bool HR.out, fb.alloc _⟩
  | some p =>
    obtain ⟨x', y'⟩ := p
    rw [hf] at hlk hiff
    dsimp only [Option.getD_some, Option.isSome_some] at hlk
    have hnq := fun W => neq_ent2 x' y' x y W
    have HR : Hid (decide (((x', y') : En) ≠ (x, y)) = q) := by
      show _ = _
      symm
      rw [← HQ.out, Bool.eq_iff_iff, decide_eq_true_eq, Bool.not_eq_true', inB_not, hiff]
      simp only [Option.some.injEq, ne_eq]
    generalize decide (((x', y') : En) ≠ (x, y)) = bb at *
    clear h hf hiff HQ
    go_enter Tryz.func79, Tryz.ntmps79
    go_wp2
    go_ret
    exact ⟨ret_bool HR.out, fb.alloc _⟩
set_option maxRecDepth 100000 in
set_option maxHeartbeats 4000000 in
theorem eidx_any (b : Nat) (L : List En) (a : Option Addr) (n c : Nat) (X : List En) (hn : n = X.length) (hsm : ∀ e ∈ X, e.1.size ≤ maxLen) (q : Bool) (hq : X.all (inB L) = q) (w : World) (h : Em w b L) (r : Ens w a c X) :
    Calls Tryz.prog 105 #[.slice a n c, .func (.func 79) #[.map (some b)] #[]] w fun e w' => (∃ z : Int, e = .returned (.int .i64 z) ∧ decide (0 ≤ z) = !q) ∧ Fr (fun _ => False) w w' := by
  have HQ : Hid (X.all (inB L) = q) := hq
  clear hq
  have hl1 : n ≤ c := by rw [hn]; exact r.le
  have hm2 := r.max
  have HS1 : Hid (∀ W, Fr (fun _ => False) w W → Ens W a c X) := fun W f => r.same f
  have HLK : Hid (∀ (e : En), e ∈ X → ∀ W, Fr (fun _ => False) w W → ∀ qb, (!inB L e) = qb → Calls Tryz.prog 79 #[.map (some b), .agg #[.string e.1, .string e.2]] W fun o w' => o = .returned (.bool qb) ∧ Fr (fun _ => False) W w') := fun e he W f qb hqb => lacks_any b L e (hsm e he) qb hqb W (h.same f)
  have HN : Hid (n = X.length) := hn
  clear r hn hsm h
  go_enter Tryz.func105, Tryz.ntmps105
  go_wp2
  go_loopw [8] (fun i wr => ∃ k : Nat, k ≤ n ∧ i = .int .i64 k ∧ Hid (∀ e ∈ X.take k, e ∈ L) ∧ Fr (fun _ => False) w wr) (fun i _ => n - (intOf i).toNat)
  case atStart => exact ⟨0, by omega, rfl, (fun e h => by simp at h), Fr.refl _ _⟩
  case round =>
    obtain ⟨k, hk, rfl, HE, F⟩ := hrel
    by_cases hlt : k < n
    · obtain ⟨⟨x, y⟩, hr⟩ : ∃ r, X[k]? = some r := ⟨_, List.getElem?_eq_getElem (by have := HN.out; omega)⟩
      obtain ⟨b1, o1, rfl, hb1, hcc1⟩ := (HS1.out _ F).some (by have := HN.out; omega)
      obtain ⟨q0, q1⟩ := hcc1 k _ hr
      have hmem := List.mem_of_getElem? hr
      have HP : Hid (∀ qb, (!inB L (x, y)) = qb → Calls Tryz.prog 79 #[.map (some b), .agg #[.string x, .string y]] wr fun o w' => o = .returned (.bool qb) ∧ Fr (fun _ => False) wr w') := HLK.out _ hmem wr F
      dsimp only at q0 q1
      have hki : (k : Int) < (n : Int) := by omega
      have HY : Hid ((x, y) ∈ L → ∀ e ∈ X.take (k + 1), e ∈ L) := fun h e he => by
        rw [take_snocH hr, List.mem_append, List.mem_singleton] at he
        rcases he with he | rfl
        · exact HE.out e he
        · exact h
      have HNO : Hid ((x, y) ∉ L → q = false) := fun h => by rw [← HQ.out]; exact allB_no hmem h
      clear hr hcc1 hmem
      by_cases hm : (x, y) ∈ L
      · have hp := HP.out false (by rw [inB_iff.2 hm]; rfl)
        have HY2 : Hid (∀ e ∈ X.take (k + 1), e ∈ L) := HY.out hm
        clear HY HNO hm HP
        go_wp2_with fail
        refine hp.mono ?_
        rintro e w3 ⟨rfl, f3⟩
        clear hp
        go_wp2
        go_roundw
        case rel => exact ⟨k + 1, by omega, by go_num, HY2, F.seq' f3⟩
        case measure => simp [intOf]; omega
      · have hp := HP.out true (by rw [inB_not.2 hm]; rfl)
        have HF : Hid (q = false) := HNO.out hm
        clear HY HNO hm HP
        go_wp2_with fail
        refine hp.mono ?_
        rintro e w3 ⟨rfl, f3⟩
        clear hp
        go_wp2
        go_ret
        exact ⟨⟨_, rfl, by rw [HF.out]; simp⟩, F.seq' f3⟩
    · obtain rfl : k = n := by omega
      have HT : Hid (q = true) := by
        show _ = _
        rw [← HQ.out]
        refine allB_yes ?_
        have := HE.out
        rwa [List.take_of_length_le (by have := HN.out; omega)] at this
      go_wp2
      go_ret
      exact ⟨⟨_, rfl, by rw [HT.out]; rfl⟩, F⟩
def justB (L X : List En) : Bool := (decide (X.length = L.length)) && (X.all (inB L))
set_option maxRecDepth 100000 in
set_option maxHeartbeats 4000000 in
theorem cont_any (b : Nat) (a : Option Addr) (n c : Nat) (q : Bool) (w : World) (hi : Calls Tryz.prog 105 #[.slice a n c, .func (.func 79) #[.map (some b)] #[]] w fun e w' => (∃ z : Int, e = .returned (.int .i64 z) ∧ decide (0 ≤ z) = !q) ∧ Fr (fun _ => False) w w') :
    Calls Tryz.prog 78 #[.slice a n c, .func (.func 79) #[.map (some b)] #[]] w fun e w' => e = .returned (.bool (!q)) ∧ Fr (fun _ => False) w w' := by
  go_enter Tryz.func78, Tryz.ntmps78
  go_wp2_with fail
  refine hi.mono ?_
  rintro e w1 ⟨⟨z, rfl, hz⟩, f1⟩
  have HZ : Hid (decide (0 ≤ z) = !q) := hz
  clear hz hi
  go_wp2
  go_ret
  exact ⟨ret_bool HZ.out, f1⟩
set_option maxRecDepth 100000 in
set_option maxHeartbeats 4000000 in
theorem just_any0 (b : Nat) (a : Option Addr) (n c m : Nat) (q : Bool) (w : World) (hlen : (Builtin.len_ #[91] 3 #[.map (some b)]).run Tryz.prog w = .ok (.int .i64 (m : Nat)) w) (hct : Calls Tryz.prog 78 #[.slice a n c, .func (.func 79) #[.map (some b)] #[]] w fun e w' => e = .returned (.bool (!q)) ∧ Fr (fun _ => False) w w') :
    Calls Tryz.prog 63 #[.map (some b), .slice a n c] w fun e w' => e = .returned (.bool (decide (n = m) && q)) ∧ Fr (fun _ => False) w w' := by
  by_cases hnm : n = m
  · subst hnm
    have hnb : ((n : Int) == (n : Int)) = true := by simp
    have HQ : Hid ((decide (n = n) && q) = q) := by show _ = _; simp
    rw [HQ.out]
    go_enter Tryz.func63, Tryz.ntmps63
    go_wp2_with fail
    refine hct.mono ?_
    rintro e w1 ⟨rfl, f1⟩
    clear hct hlen
    go_wp2
    go_ret
    exact ⟨ret_bool (by simp), f1⟩
  · have hnb : ((n : Int) == (m : Int)) = false := by simp; omega
    have HQ : Hid ((decide (n = m) && q) = false) := by show _ = _; simp [hnm]
    rw [HQ.out]
    clear hnm hct
    go_enter Tryz.func63, Tryz.ntmps63
    go_wp2
    go_ret
    exact ⟨rfl, Fr.refl _ _⟩
theorem just_any (b : Nat) (L : List En) (a : Option Addr) (n c : Nat) (X : List En) (hn : n = X.length) (hsm : ∀ e ∈ X, e.1.size ≤ maxLen) (w : World) (h : Em w b L) (r : Ens w a c X) :
    Calls Tryz.prog 63 #[.map (some b), .slice a n c] w fun e w' => e = .returned (.bool (justB L X)) ∧ Fr (fun _ => False) w w' := by
  have := just_any0 b a n c L.length (X.all (inB L)) w (h.len 3) (cont_any b a n c _ w (eidx_any b L a n c X hn hsm _ rfl w h r))
  rw [hn] at this ⊢
  exact this
end Go.Proofs.YthdbkanbgfajbaaGreat

/- The document's own order of keys, told with nothing but draws. -/
namespace Go.Proofs.YthdbkanbgfajbaaGreat
open Go.RowKit

end Go.Proofs.YthdbkanbgfajbaaGreat

/- Which entries are a map's. -/
namespace Go.Proofs.YthdbkanbgfajbaaGreat
open Go.RowKit Go.Shelf

/-- What is asked of the entry at a place. -/
def okAt (L : List En) (j : Nat) : Prop := ∀ e, L[j]? = some e → ekey e.1.size = 0 ∧ evalu e.2.size = 0 ∧ ∀ p, 0 < j → L[j - 1]? = some p → cp p.1 e.1 < 0
def MapOk (L : List En) : Prop := ∀ j, j < L.length → okAt L j
def prvB (e : En) (p : Option En) : Bool := match p with
  | none => true
  | some p => decide (cp p.1 e.1 < 0)
def okAtB (L : List En) (j : Nat) : Bool := match L[j]? with
  | none => true
  | some e => decide (ekey e.1.size = 0) && (decide (evalu e.2.size = 0) && (decide (j = 0) || prvB e L[j - 1]?))
theorem okAtB_iff {L : List En} {j : Nat} : okAtB L j = true ↔ okAt L j := by
  unfold okAtB okAt
  cases hL : L[j]? with
  | none => simp
  | some e =>
    cases hp : L[j - 1]? with
    | none => simp [prvB]
    | some p =>
      simp only [prvB, Bool.and_eq_true, Bool.or_eq_true, decide_eq_true_eq, Option.some.injEq, forall_eq']
      constructor
      · rintro ⟨h1, h2, h3⟩
        exact ⟨h1, h2, fun q hj hq => by subst hq; exact h3.elim (fun h => absurd h (by omega)) id⟩
      · rintro ⟨h1, h2, h3⟩
        refine ⟨h1, h2, ?_⟩
        by_cases hj : j = 0
        · exact .inl hj
        · exact .inr (h3 p (by omega) rfl)
def mapB (L : List En) : Bool := (List.range L.length).all (okAtB L)
theorem mapB_iff {L : List En} : mapB L = true ↔ MapOk L := by
  unfold mapB MapOk
  rw [List.all_eq_true]
  exact ⟨fun h j hj => okAtB_iff.1 (h j (List.mem_range.2 hj)), fun h j hj => okAtB_iff.2 (h j (List.mem_range.1 hj))⟩
theorem mapB_yes {L : List En} (h : MapOk L) : mapB L = true := mapB_iff.2 h
theorem mapB_no {L : List En} {j : Nat} (hj : j < L.length) (h : ¬ okAt L j) : mapB L = false := by
  cases hm : mapB L
  · rfl
  · exact absurd (mapB_iff.1 hm j hj) h
theorem MapOk.ris {L : List En} (h : MapOk L) : Ris L := by
  have key : ∀ (i j : Nat) (hi : i < L.length) (hj : j < L.length), i < j → cp L[i].1 L[j].1 < 0 := by
    intro i j hi hj hij
    induction j with
    | zero => omega
    | succ j ih =>
      have h1 := (h (j + 1) hj _ (List.getElem?_eq_getElem hj)).2.2 L[j] (by omega) (by rw [show j + 1 - 1 = j by omega]; exact List.getElem?_eq_getElem (by omega))
      by_cases e : i = j
      · subst e; exact h1
      · exact cp_lt_trans (ih (by omega) (by omega)) h1
  exact List.pairwise_iff_getElem.2 (fun i j hi hj hij => key i j hi hj hij)
theorem ekey_le {n : Nat} (h : ekey n = 0) : n ≤ 16 := by
  unfold ekey at h
  split at h
  · simp at h
  · omega
theorem MapOk.sml {L : List En} (h : MapOk L) : ∀ e ∈ L, e.1.size ≤ maxLen := fun e he => by
  obtain ⟨j, hj, rfl⟩ := List.getElem_of_mem he
  have := ekey_le (h j hj _ (List.getElem?_eq_getElem hj)).1
  unfold maxLen; omega
theorem mapB_ok {L : List En} (h : mapB L = true) : MapOk L := mapB_iff.1 h
end Go.Proofs.YthdbkanbgfajbaaGreat

/- The map behind the first of a history, on both sides. -/
namespace Go.Proofs.YthdbkanbgfajbaaGreat
open Go.RowKit Go.Shelf

/-- Behind's answer. -/
def BhOut (w : World) (L : List En) (err : Int) (e : Ending) (w' : World) : Prop := ∃ a c, e = .returned (.tuple #[.slice a L.length c, .int .i64 err]) ∧ Ens w' a c L ∧ (∀ b off, a = some ⟨b, off, none⟩ → w.heap.size ≤ b) ∧ Fr (fun _ => False) w w'
theorem beh_key {ls : List Rec} {r : Rec} (h : r ∈ hist ls) : r.key.size ≤ 1000 := by
  have := (List.mem_filter.1 h).2
  unfold comB at this
  simp only [Bool.and_eq_true] at this
  have hk := this.2.2.2.2.2.2
  unfold keyB ekey at hk
  simp only [beq_iff_eq] at hk
  split at hk
  · simp at hk
  · omega
end Go.Proofs.YthdbkanbgfajbaaGreat
