
/- What page.Decode tells. -/
import Derived.Test.YtcmkpmilnplhmaaPgNd2
namespace Go.Proofs.Ytcmkpmilnplhmaa
open Go.RowKit Crcm

def zerosB (l : List Nat) : Bool := l.all (fun (x : Nat) => x == 0)
theorem zerosB_no {l : List Nat} (i : Nat) (hi : i < l.length) (h : l.getD i 0 ≠ 0) : zerosB l = false := by
  unfold zerosB
  rw [← Bool.not_eq_true, List.all_eq_true]
  intro f
  rw [List.getD_eq_getElem?_getD, List.getElem?_eq_getElem hi] at h
  exact h (by simpa using f _ (List.getElem_mem hi))
theorem zerosB_yes {l : List Nat} (h : ∀ i, i < l.length → l.getD i 0 = 0) : zerosB l = true := by
  unfold zerosB
  rw [List.all_eq_true]
  intro x hx
  obtain ⟨i, hi, he⟩ := List.getElem_of_mem hx
  have := h i hi
  rw [List.getD_eq_getElem?_getD, List.getElem?_eq_getElem hi, Option.getD_some, he] at this
  simp [this]
set_option maxRecDepth 100000 in
set_option maxHeartbeats 1000000 in
theorem zeros_any (a : Option Addr) (n cap : Nat) (l : List Nat) (hn : n = l.length) (w : World) (hr : Row w a cap l) :
    Calls Try.prog 55 #[.slice a n cap] w fun e w' => e = .returned (.bool (zerosB l)) ∧ w' = w := by
  subst hn
  have hle := hr.le
  have hmx := hr.max
  rcases hr.at_ with h0 | ⟨b, off, rfl, hb, hc⟩
  · subst h0
    go_enter Try.func55, Try.ntmps55
    go_wp2
    refine wp_loop_rounds 1 ?_
    rw [rounds_succ]
    go_wp2
    go_ret
    exact ⟨rfl, rfl⟩
  · go_enter Try.func55, Try.ntmps55
    go_wp2
    go_loop [4, 7] (fun _ i => ∃ k : Nat, k ≤ l.length ∧ i = .int .i64 k ∧ Hid (∀ x, x < k → l.getD x 0 = 0)) (fun _ i => l.length - (intOf i).toNat)
    case atStart => exact ⟨0, by omega, rfl, fun x hx => by omega⟩
    case round =>
      obtain ⟨k, hk, rfl, HE⟩ := hrel
      by_cases hlt : k < l.length
      · have hcell := hc k hlt
        obtain ⟨x, hx⟩ : ∃ x, x = l.getD k 0 := ⟨_, rfl⟩
        rw [← hx] at hcell
        have HX : Hid (x = l.getD k 0) := hx
        clear hx hc
        by_cases h1 : x = 0
        · have h2 : ((x : Int) != 0) = false := by simp [h1]
          have H1 : Hid (x = 0) := h1
          clear h1
          go_wp2
          go_round
          case rel =>
            refine ⟨k + 1, by omega, by go_num, fun y hy => ?_⟩
            rcases Nat.lt_or_ge y k with h | h
            · exact HE.out y h
            · have e : y = k := by omega
              rw [e, ← HX.out]; exact H1.out
          case measure => simp [intOf]; omega
        · have h2 : ((x : Int) != 0) = true := by rw [bne_iff_ne]; omega
          have H1 : Hid (x ≠ 0) := h1
          clear h1
          go_wp2
          go_ret
          exact ⟨ret_bool (zerosB_no k hlt (by rw [← HX.out]; exact H1.out)).symm, rfl⟩
      · go_wp2
        go_ret
        exact ⟨ret_bool (zerosB_yes (fun x hx => HE.out x (by omega))).symm, rfl⟩

/-- The node that bytes are; none: they are no page. -/
def decF (l : List Nat) : Option Nd :=
  if l.length = 256 ∧ (opened l).2 = 0 ∧ (nodeF (((opened l).1, 0), false)).2.2 = false ∧ zerosB ((opened l).1.drop (252 - (nodeF (((opened l).1, 0), false)).2.1.1.length)) = true ∧ rightB (nodeF (((opened l).1, 0), false)).1 = true
  then some (nodeF (((opened l).1, 0), false)).1 else none
def zn : Nd := ⟨0, 0, 0, ⟨#[]⟩, [], [], []⟩
def zp : Pt := ⟨none, 0, none, 0, none, 0⟩
/-- The lists of a node that was made lie in new memory. -/
def Nw (w : World) (p : Pt) : Prop := ∀ b off, (p.k = some ⟨b, off, none⟩ ∨ p.v = some ⟨b, off, none⟩ ∨ p.i = some ⟨b, off, none⟩) → w.heap.size ≤ b
theorem zp_nw (w : World) : Nw w zp := by rintro b off (h | h | h) <;> cases h
theorem Nw.back {w w0 : World} {p : Pt} (h : Nw w p) (hs : w0.heap.size ≤ w.heap.size) : Nw w0 p := fun b off hx => Nat.le_trans hs (h b off hx)
/-- What Decode tells. -/
def DecOut (w : World) (l : List Nat) (e : Ending) (w' : World) : Prop :=
  ∃ p : Pt, e = .returned (.tuple #[(.agg #[.int .i64 ((decF l).getD zn).lev, .int .i64 ((decF l).getD zn).lsn, .int .i64 ((decF l).getD zn).rgt, .string ((decF l).getD zn).high, .slice p.k ((decF l).getD zn).keys.length p.kc, .slice p.v ((decF l).getD zn).vals.length p.vc, .slice p.i ((decF l).getD zn).kids.length p.ic]), .int .i64 (if (decF l).isSome = true then 0 else 60)]) ∧ Nod w' ((decF l).getD zn) p ∧ Fr (fun _ => False) w w' ∧ Nw w p
theorem zn_nod (w : World) : Nod w zn zp := by
  refine ⟨⟨Nat.le_refl _, by simp [zp], (fun s hs => by cases hs), .inl rfl⟩, ⟨Nat.le_refl _, by simp [zp], (fun s hs => by cases hs), .inl rfl⟩, ⟨Nat.le_refl _, by simp [zp], .inl rfl⟩, by decide, (fun s hs => by cases hs), (fun s hs => by cases hs), by simp [zn], by simp [zn], by simp [zn]⟩
theorem dec_no {w w' : World} {l : List Nat} (h : decF l = none) (f : Fr (fun _ => False) w w') : DecOut w l (.returned (.tuple #[.agg #[.int .i64 0, .int .i64 0, .int .i64 0, .string ⟨#[]⟩, .slice none 0 0, .slice none 0 0, .slice none 0 0], .int .i64 60])) w' := by
  unfold DecOut
  rw [h]
  exact ⟨zp, rfl, zn_nod w', f, zp_nw w⟩

theorem numS_len (st : RS) (size : Int) : (numS st size).2.2.1.length ≤ st.1.length := by
  unfold numS
  repeat' split
  all_goals simp
theorem textS_len (st : RS) (m : Int) : (textS st m).2.2.1.length ≤ st.1.length := by
  unfold textS
  repeat' split
  all_goals simp
theorem numF_len (s : RF) (size : Int) : (numF s size).2.1.1.length ≤ s.1.1.length := numS_len s.1 size
theorem textF_len (s : RF) (m : Int) : (textF s m).2.1.1.length ≤ s.1.1.length := textS_len s.1 m
theorem entL_len (leaf : Bool) (c : Nat) (x : Nd × RF) : (entL leaf c x).2.1.1.length ≤ x.2.1.1.length := by
  induction c generalizing x with
  | zero => simp [entL]
  | succ c ih =>
    have h1 := textF_len x.2 16
    have h2 := textF_len (textF x.2 16).2 32
    have h3 := numF_len (textF x.2 16).2 4
    simp only [entL]
    split
    · split
      · exact Nat.le_trans h2 h1
      · exact Nat.le_trans (ih _) (Nat.le_trans h2 h1)
    · split
      · exact Nat.le_trans h3 h1
      · exact Nat.le_trans (ih _) (Nat.le_trans h3 h1)
theorem nodeF_len (s : RF) : (nodeF s).2.1.1.length ≤ s.1.1.length := by
  have h1 := numF_len s 1
  have h2 := numF_len (numF s 1).2 8
  have h3 := numF_len (numF (numF s 1).2 8).2 4
  have h4 := numF_len (numF (numF (numF s 1).2 8).2 4).2 2
  have h5 := textF_len (numF (numF (numF (numF s 1).2 8).2 4).2 2).2 16
  have h6 := numF_len (headF s).2.2 4
  have e : (headF s).2.2 = (textF (numF (numF (numF (numF s 1).2 8).2 4).2 2).2 16).2 := rfl
  rw [← e] at h5
  unfold nodeF
  split
  · exact Nat.le_trans (entL_len _ _ _) (by show (headF s).2.2.1.1.length ≤ _; omega)
  · exact Nat.le_trans (entL_len _ _ _) (by show (numF (headF s).2.2 4).2.1.1.length ≤ _; omega)
theorem dec_yes {w w' : World} {l : List Nat} {n : Nd} {p : Pt} (h : decF l = some n) (nd : Nod w' n p) (f : Fr (fun _ => False) w w') (hnw : Nw w p) : DecOut w l (.returned (.tuple #[(.agg #[.int .i64 n.lev, .int .i64 n.lsn, .int .i64 n.rgt, .string n.high, .slice p.k n.keys.length p.kc, .slice p.v n.vals.length p.vc, .slice p.i n.kids.length p.ic]), .int .i64 0])) w' := by
  unfold DecOut
  rw [h]
  exact ⟨p, rfl, nd, f, hnw⟩
theorem opened_len {l : List Nat} (h : l.length = 256) (h2 : (opened l).2 = 0) : (opened l).1.length = 252 := by
  unfold opened at h2 ⊢
  rw [if_neg (by omega)] at h2 ⊢
  split at h2
  · rename_i e; rw [if_pos e]; simp; omega
  · simp at h2

set_option maxRecDepth 100000 in
set_option maxHeartbeats 1000000 in
theorem decode_len (a : Option Addr) (n cap : Nat) (l : List Nat) (hn : n = l.length) (hl : l.length ≠ 256) (w : World) :
    Calls Try.prog 47 #[.slice a n cap] w fun e w' => DecOut w l e w' := by
  have hd : decF l = none := by unfold decF; rw [if_neg (fun h => hl h.1)]
  have h2 : ((n : Int) != 256) = true := by rw [bne_iff_ne]; omega
  have f0 := Fr.box w (.cells #[.int .i64 0, .int .i64 0, .int .i64 0, .string ⟨#[]⟩, .slice none 0 0, .slice none 0 0, .slice none 0 0] 83)
  have HD : Hid (decF l = none) := hd
  clear hn hl hd
  go_enter Try.func47, Try.ntmps47
  go_wp2
  exact bodyPost_ret (v := .tuple #[.agg #[.int .i64 0, .int .i64 0, .int .i64 0, .string ⟨#[]⟩, .slice none 0 0, .slice none 0 0, .slice none 0 0], .int .i64 60]) (by simp [results, Try.results47, go_sem]) rfl (dec_no HD.out f0)

theorem nd_far {W W' : World} {n : Nd} {p : Pt} {B : Nat} (h : Nod W n p) (f : Fr (fun k => k = B) W W') (hp : ∀ b off, (p.k = some ⟨b, off, none⟩ ∨ p.v = some ⟨b, off, none⟩ ∨ p.i = some ⟨b, off, none⟩) → b ≠ B) : Nod W' n p := by
  refine ⟨h.keys.fr f (fun b _ e => by obtain ⟨o, e⟩ := e; exact hp b o (.inl e)), h.vals.fr f (fun b _ e => by obtain ⟨o, e⟩ := e; exact hp b o (.inr (.inl e))), ⟨h.kids.le, h.kids.max, ?_⟩, h.high, h.ksz, h.vsz, h.klen, h.vlen, h.ilen⟩
  rcases h.kids.at_ with h0 | ⟨b, off, ha, hb, hc⟩
  · exact .inl h0
  · refine .inr ⟨b, off, ha, Nat.lt_of_lt_of_le hb f.size, fun i hi => ?_⟩
    rw [f.cell (p := ⟨b, off + i, none⟩) hb (hp b off (.inr (.inr ha)))]
    exact hc i hi

set_option maxRecDepth 100000 in
set_option maxHeartbeats 2000000 in
theorem decode_256 (a : Option Addr) (cap : Nat) (l : List Nat) (hl : l.length = 256) (w : World) (hr : Row w a cap l) :
    Calls Try.prog 47 #[.slice a 256 cap] w fun e w' => DecOut w l e w' := by
  have f0 := Fr.box w (.cells #[.int .i64 0, .int .i64 0, .int .i64 0, .string ⟨#[]⟩, .slice none 0 0, .slice none 0 0, .slice none 0 0] 83)
  have HL : Hid (l.length = 256) := hl
  clear hl
  obtain ⟨o, ho⟩ : ∃ o, o = opened l := ⟨_, rfl⟩
  have HO : Hid (o = opened l) := ho
  have HD : Hid (decF l = if o.2 = 0 ∧ (nodeF ((o.1, 0), false)).2.2 = false ∧ zerosB (o.1.drop (252 - (nodeF ((o.1, 0), false)).2.1.1.length)) = true ∧ rightB (nodeF ((o.1, 0), false)).1 = true then some (nodeF ((o.1, 0), false)).1 else none) := by
    show _ = _
    unfold decF
    rw [ho]
    simp only [HL.out, true_and]
  clear ho
  have hoa := open_all a 256 cap l HL.out.symm _ (hr.same f0)
  rw [← HO.out] at hoa
  go_enter Try.func47, Try.ntmps47
  go_wp2_with fail
  refine hoa.mono ?_
  clear hoa
  rintro e w1 ⟨a1, c1, rfl, r1, f1⟩
  have f01 := f0.seq' f1
  have hbox : w1.heap[w.heap.size]? = some (.cells #[.int .i64 0, .int .i64 0, .int .i64 0, .string ⟨#[]⟩, .slice none 0 0, .slice none 0 0, .slice none 0 0] 83 (0, 0)) := by rw [f1.block _ (by simp) (fun f => f)]; exact heap_alloc_new w _
  obtain ⟨⟨r0, r1', r2, r3, r4, r5, r6⟩, rz⟩ := node_cells hbox
  have z0 := rz 0; have z1 := rz 1; have z2 := rz 2; have z3 := rz 3; have z4 := rz 4; have z5 := rz 5; have z6 := rz 6
  by_cases ho2 : o.2 = 0
  · have h2 : ((o.2 : Int) != 0) = false := by simp [ho2]
    have hol : o.1.length = 252 := by rw [HO.out]; exact opened_len HL.out (by rw [← HO.out]; exact ho2)
    obtain ⟨x, hx⟩ : ∃ x, x = nodeF ((o.1, 0), false) := ⟨_, rfl⟩
    have HX : Hid (x = nodeF ((o.1, 0), false)) := hx
    have HDX : Hid (decF l = if x.2.2 = false ∧ zerosB (o.1.drop (252 - x.2.1.1.length)) = true ∧ rightB x.1 = true then some x.1 else none) := by
      show _ = _
      rw [HD.out, ← hx]; simp only [ho2, true_and]
    have hxl : x.2.1.1.length ≤ 252 := by
      rw [hx]
      have := nodeF_len ((o.1, 0), false)
      simp only [hol] at this; exact this
    clear HD ho2 hx
    obtain ⟨B, hB⟩ : ∃ B, B = o.1 := ⟨_, rfl⟩
    have HBL : Hid (B.length = 252) := by show _ = _; rw [hB]; exact hol
    rw [hol]
    rw [← hB] at r1
    have HXB : Hid (x = nodeF ((B, 0), false)) := by show _ = _; rw [hB]; exact HX.out
    rw [← hB] at HDX
    clear hol hB HX
    have hof := of_any a1 252 c1 B HBL.out.symm w1 r1
    go_wp2_with fail
    refine hof.mono ?_
    clear hof
    rintro e w2 ⟨rb, a2, c2, rfl, rd2, f2, hrb, ha2⟩
    have hrl := lt_of_block rd2.box
    have hal : ∀ b off sp, a2 = some ⟨b, off, sp⟩ → b < w2.heap.size := fun b off sp e => by
      rcases rd2.row.at_ with h0 | ⟨b', off', e', hb', _⟩
      · have := HBL.out; rw [h0] at this; simp at this
      · rw [e'] at e; simp only [Option.some.injEq, Addr.mk.injEq] at e; omega
    have rr2 : Rr (w2.alloc (.cells #[.pointer (some ⟨rb, 0, none⟩), .bool false] 97)) w2.heap.size rb a2 c2 ((B, 0), false) := by
      have fb := Fr.box w2 (.cells #[.pointer (some ⟨rb, 0, none⟩), .bool false] 97)
      exact ⟨heap_alloc_new w2 _, ⟨by rw [fb.block rb hrl (fun f => f)]; exact rd2.box, rd2.row.same fb, rd2.far⟩, by omega, fun b off sp e => by have := hal b off sp e; omega⟩
    have fb2 : Fr (fun _ => False) w1 (w2.alloc (.cells #[.pointer (some ⟨rb, 0, none⟩), .bool false] 97)) := f2.alloc _
    go_wp2_with fail
    refine (node_any w2.heap.size rb a2 c2 ((B, 0), false) _ rr2 (fun b off sp e => by have := hal b off sp e; simp; omega)).mono ?_
    unfold NodeOut
    rw [← HXB.out]
    rintro e w3 ⟨p, rfl, nd3, far3, a3, c3, rr3, f3, _⟩
    have HFAR : Hid (∀ b off, (p.k = some ⟨b, off, none⟩ ∨ p.v = some ⟨b, off, none⟩ ∨ p.i = some ⟨b, off, none⟩) → w.heap.size < b) := fun b off e => by
      have h1 := far3 b off e
      have h2 := f01.size
      have h3 := f2.size
      have h4 := lt_of_block hbox
      simp at h1
      omega
    clear far3
    have f13 : Fr (fun _ => False) w1 w3 := fb2.trans f3 (fun i hi e => by have := f2.size; rcases e with e | e <;> omega)
    have r13 := r1.same f13
    have f03 := f01.seq' f13
    have hbox3 : w3.heap[w.heap.size]? = some (.cells #[.int .i64 0, .int .i64 0, .int .i64 0, .string ⟨#[]⟩, .slice none 0 0, .slice none 0 0, .slice none 0 0] 83 (0, 0)) := by rw [f13.block _ (lt_of_block hbox) (fun f => f)]; exact hbox
    obtain ⟨n, hn⟩ : ∃ n, n = x.1 := ⟨_, rfl⟩
    obtain ⟨st, hst⟩ : ∃ n, n = x.2 := ⟨_, rfl⟩
    rw [← hn] at nd3 ⊢
    rw [← hst] at rr3 hxl
    rw [← hn, ← hst] at HDX
    clear hn hst HXB rr2 fb2 hal hrl rd2 ha2 r0 r1' r2 r3 r4 r5 r6 rz z0 z1 z2 z3 z4 z5 z6 hbox f3 f2
    have fb3 := Fr.box w3 (.cells #[.int .i64 n.lev, .int .i64 n.lsn, .int .i64 n.rgt, .string n.high, .slice p.k n.keys.length p.kc, .slice p.v n.vals.length p.vc, .slice p.i n.kids.length p.ic] 83)
    have rr4 := rr3.same fb3
    have r14 := r13.same fb3
    have f04 := f03.seq' fb3
    have nd4 := nd3.same fb3
    have hbox4 : (w3.alloc (.cells #[.int .i64 n.lev, .int .i64 n.lsn, .int .i64 n.rgt, .string n.high, .slice p.k n.keys.length p.kc, .slice p.v n.vals.length p.vc, .slice p.i n.kids.length p.ic] 83)).heap[w.heap.size]? = some (.cells #[.int .i64 0, .int .i64 0, .int .i64 0, .string ⟨#[]⟩, .slice none 0 0, .slice none 0 0, .slice none 0 0] 83 (0, 0)) := by rw [fb3.block _ (lt_of_block hbox3) (fun f => f)]; exact hbox3
    obtain ⟨g0, g1, _, _⟩ := cell_of_two rr4.box
    have hfin : ∀ W, Fr (fun _ => False) (w3.alloc (.cells #[.int .i64 n.lev, .int .i64 n.lsn, .int .i64 n.rgt, .string n.high, .slice p.k n.keys.length p.kc, .slice p.v n.vals.length p.vc, .slice p.i n.kids.length p.ic] 83)) W → W.heap[w.heap.size]? = some (.cells #[.int .i64 0, .int .i64 0, .int .i64 0, .string ⟨#[]⟩, .slice none 0 0, .slice none 0 0, .slice none 0 0] 83 (0, 0)) := fun W f => by rw [f.block _ (lt_of_block hbox4) (fun f => f)]; exact hbox4
    have HF : Hid (∀ W, Fr (fun _ => False) (w3.alloc (.cells #[.int .i64 n.lev, .int .i64 n.lsn, .int .i64 n.rgt, .string n.high, .slice p.k n.keys.length p.kc, .slice p.v n.vals.length p.vc, .slice p.i n.kids.length p.ic] 83)) W → W.heap[w.heap.size]? = some (.cells #[.int .i64 0, .int .i64 0, .int .i64 0, .string ⟨#[]⟩, .slice none 0 0, .slice none 0 0, .slice none 0 0] 83 (0, 0))) := hfin
    clear hfin rr3 r13 nd3 hbox3
    cases hfl : st.2 with
    | true =>
      rw [hfl] at g1
      have HN : Hid (decF l = none) := by show _ = _; rw [HDX.out, if_neg (fun h => by rw [hfl] at h; exact absurd h.1 (by simp))]
      clear hfl
      obtain ⟨⟨r0, r1', r2, r3, r4, r5, r6⟩, rz⟩ := node_cells hbox4
      have z0 := rz 0; have z1 := rz 1; have z2 := rz 2; have z3 := rz 3; have z4 := rz 4; have z5 := rz 5; have z6 := rz 6
      obtain ⟨hb, ff⟩ := fin7 hbox4 (.int .i64 0) (.int .i64 0) (.int .i64 0) (.string ⟨#[]⟩) (.slice none 0 0) (.slice none 0 0) (.slice none 0 0)
      obtain ⟨⟨q0, q1, q2, q3, q4, q5, q6⟩, _⟩ := node_cells hb
      have ff2 := f04.trans ff (fun i hi e => by omega)
      go_wp2
      exact bodyPost_ret (v := .tuple #[.agg #[.int .i64 0, .int .i64 0, .int .i64 0, .string ⟨#[]⟩, .slice none 0 0, .slice none 0 0, .slice none 0 0], .int .i64 60]) (by simp [results, Try.results47, go_sem, q0, q1, q2, q3, q4, q5, q6]) rfl (dec_no HN.out ff2)
    | false =>
      rw [hfl] at g1
      obtain ⟨ll, hll⟩ : ∃ k, k = st.1.1.length := ⟨_, rfl⟩
      have hlf := left_any rb a3 c3 st.1.1 st.1.2 _ rr4.rd
      rw [← hll] at hlf hxl
      obtain ⟨k, hk⟩ : ∃ k, k = 252 - ll := ⟨_, rfl⟩
      have HDK : Hid (decF l = if zerosB (B.drop k) = true ∧ rightB n = true then some n else none) := by
        show _ = _
        rw [HDX.out, hfl, ← hll, ← hk]; simp only [true_and]
      have hki : (252 : Int) - (ll : Int) = (k : Int) := by omega
      have hk2 : k ≤ 252 := by omega
      clear HDX hll hfl hk
      obtain ⟨b1, off1, ea, hb1, hc1⟩ : ∃ b off, a1 = some ⟨b, off, none⟩ ∧ b < (w3.alloc (.cells #[.int .i64 n.lev, .int .i64 n.lsn, .int .i64 n.rgt, .string n.high, .slice p.k n.keys.length p.kc, .slice p.v n.vals.length p.vc, .slice p.i n.kids.length p.ic] 83)).heap.size ∧ ∀ i, i < B.length → (w3.alloc (.cells #[.int .i64 n.lev, .int .i64 n.lsn, .int .i64 n.rgt, .string n.high, .slice p.k n.keys.length p.kc, .slice p.v n.vals.length p.vc, .slice p.i n.kids.length p.ic] 83)).cell? ⟨b, off + i, none⟩ = some (.int .u8 ((B.getD i 0 : Nat) : Int)) := by
        rcases r14.at_ with h0 | h0
        · have := HBL.out; rw [h0] at this; simp at this
        · exact h0
      subst ea
      have hcap := r14.le
      have hcm := r14.max
      have HZ : Hid (B.length = 252) := HBL.out
      have hcap2 : 252 ≤ c1 := by have := HZ.out; omega
      have HLD : Hid ((B.drop k).length = 252 - k) := by show _ = _; rw [List.length_drop, HZ.out]
      clear hcap
      obtain ⟨zb, hzb⟩ : ∃ z, z = zerosB (B.drop k) := ⟨_, rfl⟩
      by_cases hkc : k = c1
      · have hB0 : B.drop k = [] := List.drop_eq_nil_of_le (by have := HZ.out; omega)
        rw [hB0] at hzb HDK
        have hzz := zeros_any (some ⟨b1, off1, none⟩) 0 0 [] rfl (w3.alloc (.cells #[.int .i64 n.lev, .int .i64 n.lsn, .int .i64 n.rgt, .string n.high, .slice p.k n.keys.length p.kc, .slice p.v n.vals.length p.vc, .slice p.i n.kids.length p.ic] 83)) (row_empty _ _)
        subst hkc
        obtain rfl : k = 252 := by omega
        have hki' : (252 : Int) - (ll : Int) = 252 := by omega
        clear hki hB0 HLD hk2 hcap2
        rw [← hzb] at hzz HDK
        clear hzb
        go_wp2_with fail
        refine hlf.mono ?_
        rintro e w5 ⟨rfl, rfl⟩
        go_wp2_with fail
        refine hzz.mono ?_
        rintro e w5 ⟨rfl, rfl⟩
        clear hzz hlf
        cases zb with
        | false =>
          have HN : Hid (decF l = none) := by show _ = _; rw [HDK.out, if_neg (fun h => absurd h.1 (by simp))]
          obtain ⟨⟨r0, r1', r2, r3, r4, r5, r6⟩, rz⟩ := node_cells hbox4
          have z0 := rz 0; have z1 := rz 1; have z2 := rz 2; have z3 := rz 3; have z4 := rz 4; have z5 := rz 5; have z6 := rz 6
          obtain ⟨hb, ff⟩ := fin7 hbox4 (.int .i64 0) (.int .i64 0) (.int .i64 0) (.string ⟨#[]⟩) (.slice none 0 0) (.slice none 0 0) (.slice none 0 0)
          obtain ⟨⟨q0, q1, q2, q3, q4, q5, q6⟩, _⟩ := node_cells hb
          have ff2 := f04.trans ff (fun i hi e => by omega)
          go_wp2
          exact bodyPost_ret (v := .tuple #[.agg #[.int .i64 0, .int .i64 0, .int .i64 0, .string ⟨#[]⟩, .slice none 0 0, .slice none 0 0, .slice none 0 0], .int .i64 60]) (by simp [results, Try.results47, go_sem, q0, q1, q2, q3, q4, q5, q6]) rfl (dec_no HN.out ff2)
        | true =>
          cases hrt : rightB n with
          | false =>
            have HN : Hid (decF l = none) := by show _ = _; rw [HDK.out, if_neg (fun h => by rw [hrt] at h; exact absurd h.2 (by simp))]
            have HE : Hid (epage n = 60) := epage_no hrt
            clear hrt
            go_wp2_with fail
            refine (check_any n p _ nd4).mono ?_
            rw [HE.out]
            rintro e w6 ⟨rfl, f6⟩
            have hb6 := HF.out w6 f6
            have f06 := f04.seq' f6
            obtain ⟨⟨r0, r1', r2, r3, r4, r5, r6⟩, rz⟩ := node_cells hb6
            have z0 := rz 0; have z1 := rz 1; have z2 := rz 2; have z3 := rz 3; have z4 := rz 4; have z5 := rz 5; have z6 := rz 6
            obtain ⟨hb, ff⟩ := fin7 hb6 (.int .i64 0) (.int .i64 0) (.int .i64 0) (.string ⟨#[]⟩) (.slice none 0 0) (.slice none 0 0) (.slice none 0 0)
            obtain ⟨⟨q0, q1, q2, q3, q4, q5, q6⟩, _⟩ := node_cells hb
            have ff2 := f06.trans ff (fun i hi e => by omega)
            go_wp2
            exact bodyPost_ret (v := .tuple #[.agg #[.int .i64 0, .int .i64 0, .int .i64 0, .string ⟨#[]⟩, .slice none 0 0, .slice none 0 0, .slice none 0 0], .int .i64 60]) (by simp [results, Try.results47, go_sem, q0, q1, q2, q3, q4, q5, q6]) rfl (dec_no HN.out ff2)
          | true =>
            have HN : Hid (decF l = some n) := by show _ = _; rw [HDK.out, if_pos ⟨rfl, hrt⟩]
            have HE : Hid (epage n = 0) := epage_yes hrt
            clear hrt
            go_wp2_with fail
            refine (check_any n p _ nd4).mono ?_
            rw [HE.out]
            rintro e w6 ⟨rfl, f6⟩
            have hb6 := HF.out w6 f6
            have f06 := f04.seq' f6
            obtain ⟨s0, s1, s2, s3, s4, s5, s6⟩ := box_cells (box_at w3 n p 83 f6)
            have nd6 := nd4.same f6
            obtain ⟨⟨r0, r1', r2, r3, r4, r5, r6⟩, rz⟩ := node_cells hb6
            have z0 := rz 0; have z1 := rz 1; have z2 := rz 2; have z3 := rz 3; have z4 := rz 4; have z5 := rz 5; have z6 := rz 6
            obtain ⟨hb, ff⟩ := fin7 hb6 (.int .i64 n.lev) (.int .i64 n.lsn) (.int .i64 n.rgt) (.string n.high) (.slice p.k n.keys.length p.kc) (.slice p.v n.vals.length p.vc) (.slice p.i n.kids.length p.ic)
            obtain ⟨⟨q0, q1, q2, q3, q4, q5, q6⟩, _⟩ := node_cells hb
            have ff2 := f06.trans ff (fun i hi e => by omega)
            have nd7 := nd_far nd6 ff (fun b off hx e => by have := HFAR.out b off hx; omega)
            go_wp2
            exact bodyPost_ret (v := .tuple #[(.agg #[.int .i64 n.lev, .int .i64 n.lsn, .int .i64 n.rgt, .string n.high, .slice p.k n.keys.length p.kc, .slice p.v n.vals.length p.vc, .slice p.i n.kids.length p.ic]), .int .i64 0]) (by simp [results, Try.results47, go_sem, q0, q1, q2, q3, q4, q5, q6]) rfl (dec_yes HN.out nd7 ff2 (fun b off hx => by have := HFAR.out b off hx; omega))
      · have hrow := r14.drop k (by have := HZ.out; omega) (off1 + k) (.inr rfl) (.inr ⟨hb1, hc1⟩)
        have hzz := zeros_any _ (252 - k) _ (B.drop k) HLD.out.symm _ hrow
        rw [← hzb] at hzz HDK
        clear hzb
        go_wp2_with fail
        refine hlf.mono ?_
        rintro e w5 ⟨rfl, rfl⟩
        go_wp2_with fail
        refine hzz.mono ?_
        rintro e w5 ⟨rfl, rfl⟩
        clear hzz hlf
        cases zb with
        | false =>
          have HN : Hid (decF l = none) := by show _ = _; rw [HDK.out, if_neg (fun h => absurd h.1 (by simp))]
          obtain ⟨⟨r0, r1', r2, r3, r4, r5, r6⟩, rz⟩ := node_cells hbox4
          have z0 := rz 0; have z1 := rz 1; have z2 := rz 2; have z3 := rz 3; have z4 := rz 4; have z5 := rz 5; have z6 := rz 6
          obtain ⟨hb, ff⟩ := fin7 hbox4 (.int .i64 0) (.int .i64 0) (.int .i64 0) (.string ⟨#[]⟩) (.slice none 0 0) (.slice none 0 0) (.slice none 0 0)
          obtain ⟨⟨q0, q1, q2, q3, q4, q5, q6⟩, _⟩ := node_cells hb
          have ff2 := f04.trans ff (fun i hi e => by omega)
          go_wp2
          exact bodyPost_ret (v := .tuple #[.agg #[.int .i64 0, .int .i64 0, .int .i64 0, .string ⟨#[]⟩, .slice none 0 0, .slice none 0 0, .slice none 0 0], .int .i64 60]) (by simp [results, Try.results47, go_sem, q0, q1, q2, q3, q4, q5, q6]) rfl (dec_no HN.out ff2)
        | true =>
          cases hrt : rightB n with
          | false =>
            have HN : Hid (decF l = none) := by show _ = _; rw [HDK.out, if_neg (fun h => by rw [hrt] at h; exact absurd h.2 (by simp))]
            have HE : Hid (epage n = 60) := epage_no hrt
            clear hrt
            go_wp2_with fail
            refine (check_any n p _ nd4).mono ?_
            rw [HE.out]
            rintro e w6 ⟨rfl, f6⟩
            have hb6 := HF.out w6 f6
            have f06 := f04.seq' f6
            obtain ⟨⟨r0, r1', r2, r3, r4, r5, r6⟩, rz⟩ := node_cells hb6
            have z0 := rz 0; have z1 := rz 1; have z2 := rz 2; have z3 := rz 3; have z4 := rz 4; have z5 := rz 5; have z6 := rz 6
            obtain ⟨hb, ff⟩ := fin7 hb6 (.int .i64 0) (.int .i64 0) (.int .i64 0) (.string ⟨#[]⟩) (.slice none 0 0) (.slice none 0 0) (.slice none 0 0)
            obtain ⟨⟨q0, q1, q2, q3, q4, q5, q6⟩, _⟩ := node_cells hb
            have ff2 := f06.trans ff (fun i hi e => by omega)
            go_wp2
            exact bodyPost_ret (v := .tuple #[.agg #[.int .i64 0, .int .i64 0, .int .i64 0, .string ⟨#[]⟩, .slice none 0 0, .slice none 0 0, .slice none 0 0], .int .i64 60]) (by simp [results, Try.results47, go_sem, q0, q1, q2, q3, q4, q5, q6]) rfl (dec_no HN.out ff2)
          | true =>
            have HN : Hid (decF l = some n) := by show _ = _; rw [HDK.out, if_pos ⟨rfl, hrt⟩]
            have HE : Hid (epage n = 0) := epage_yes hrt
            clear hrt
            go_wp2_with fail
            refine (check_any n p _ nd4).mono ?_
            rw [HE.out]
            rintro e w6 ⟨rfl, f6⟩
            have hb6 := HF.out w6 f6
            have f06 := f04.seq' f6
            obtain ⟨s0, s1, s2, s3, s4, s5, s6⟩ := box_cells (box_at w3 n p 83 f6)
            have nd6 := nd4.same f6
            obtain ⟨⟨r0, r1', r2, r3, r4, r5, r6⟩, rz⟩ := node_cells hb6
            have z0 := rz 0; have z1 := rz 1; have z2 := rz 2; have z3 := rz 3; have z4 := rz 4; have z5 := rz 5; have z6 := rz 6
            obtain ⟨hb, ff⟩ := fin7 hb6 (.int .i64 n.lev) (.int .i64 n.lsn) (.int .i64 n.rgt) (.string n.high) (.slice p.k n.keys.length p.kc) (.slice p.v n.vals.length p.vc) (.slice p.i n.kids.length p.ic)
            obtain ⟨⟨q0, q1, q2, q3, q4, q5, q6⟩, _⟩ := node_cells hb
            have ff2 := f06.trans ff (fun i hi e => by omega)
            have nd7 := nd_far nd6 ff (fun b off hx e => by have := HFAR.out b off hx; omega)
            go_wp2
            exact bodyPost_ret (v := .tuple #[(.agg #[.int .i64 n.lev, .int .i64 n.lsn, .int .i64 n.rgt, .string n.high, .slice p.k n.keys.length p.kc, .slice p.v n.vals.length p.vc, .slice p.i n.kids.length p.ic]), .int .i64 0]) (by simp [results, Try.results47, go_sem, q0, q1, q2, q3, q4, q5, q6]) rfl (dec_yes HN.out nd7 ff2 (fun b off hx => by have := HFAR.out b off hx; omega))
  · have h2 : ((o.2 : Int) != 0) = true := by rw [bne_iff_ne]; omega
    have HN : Hid (decF l = none) := by show _ = _; rw [HD.out, if_neg (fun h => ho2 h.1)]
    clear ho2
    obtain ⟨hb, ff⟩ := fin7 hbox (.int .i64 0) (.int .i64 0) (.int .i64 0) (.string ⟨#[]⟩) (.slice none 0 0) (.slice none 0 0) (.slice none 0 0)
    obtain ⟨⟨q0, q1, q2, q3, q4, q5, q6⟩, _⟩ := node_cells hb
    have ff2 := f01.trans ff (fun i hi e => by omega)
    go_wp2
    exact bodyPost_ret (v := .tuple #[.agg #[.int .i64 0, .int .i64 0, .int .i64 0, .string ⟨#[]⟩, .slice none 0 0, .slice none 0 0, .slice none 0 0], .int .i64 60]) (by simp [results, Try.results47, go_sem, q0, q1, q2, q3, q4, q5, q6]) rfl (dec_no HN.out ff2)
end Go.Proofs.Ytcmkpmilnplhmaa
