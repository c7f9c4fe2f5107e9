
/- What Redo tells, in the program and in the document; rows of numbers that the statement makes itself. -/
import Derived.Test.YtjhbhjakbcplgaaPtArg
import Derived.Test.YtjhbhjakbcplgaaPtDec
import Derived.Deep.DeepCutAuto
namespace Go.Proofs.Ytjhbhjakbcplgaa
open Go.RowKit Crcm

def zI (x : Int) : Value := .int .i64 x
/-- A row of numbers at block b, no earlier than B. -/
structure Ir (w : World) (B : Nat) (a : Option Addr) (cap : Nat) (ts : List Int) : Prop where
  le : ts.length ≤ cap
  max : cap ≤ 9223372036854775807
  at_ : ts = [] ∨ ∃ b, a = some ⟨b, 0, none⟩ ∧ B ≤ b ∧ b < w.heap.size ∧ ∀ (i : Nat) (x : Int), ts[i]? = some x → w.cell? ⟨b, i, none⟩ = some (.int .i64 x)
theorem Ir.of {w : World} {B : Nat} {v : Value} {ts : List Int} (h : w.ownsRow B 3 1 v ts.length (ts.map zI)) : ∃ a cap, v = .slice a ts.length cap ∧ Ir w B a cap ts := by
  obtain ⟨h1, ⟨rfl, h0⟩ | ⟨g, cap, cur, rfl, hg, hb, r1, r2, r3, r4⟩⟩ := h
  · have : ts = [] := List.eq_nil_of_length_eq_zero h0
    subst this
    exact ⟨none, 0, rfl, by simp, by omega, .inl rfl⟩
  · refine ⟨some ⟨g, 0, none⟩, cap, rfl, r1, by simp only [maxLen] at r2; omega, .inr ⟨g, rfl, hg, lt_of_block hb, fun i x hx => ?_⟩⟩
    obtain ⟨hi, hx'⟩ := List.getElem?_eq_some_iff.1 hx
    rw [cell_of_row w g i _ _ _ hb]
    have h2 : (cur.toList.take (ts.length * 1))[i]? = (ts.map zI)[i]? := by rw [r4]
    rw [List.getElem?_take_of_lt (by omega), List.getElem?_map, hx] at h2
    rw [← Array.getElem?_toList, h2]; rfl
theorem Ir.fr {S : Nat → Prop} {w w' : World} {B cap : Nat} {a : Option Addr} {ts : List Int} (h : Ir w B a cap ts) (f : Fr S w w') (hS : ∀ i, B ≤ i → i < w.heap.size → ¬ S i) : Ir w' B a cap ts := by
  refine ⟨h.le, h.max, ?_⟩
  rcases h.at_ with h0 | ⟨b, rfl, hb, hl, hc⟩
  · exact .inl h0
  · exact .inr ⟨b, rfl, hb, Nat.lt_of_lt_of_le hl f.size, fun i x hx => (f.cell (p := ⟨b, _, none⟩) hl (hS b hb hl)).trans (hc i x hx)⟩
theorem Ir.some {w : World} {B cap : Nat} {a : Option Addr} {ts : List Int} (h : Ir w B a cap ts) (hn : 0 < ts.length) : ∃ b, a = .some ⟨b, 0, none⟩ ∧ B ≤ b ∧ b < w.heap.size ∧ ∀ (i : Nat) (x : Int), ts[i]? = .some x → w.cell? ⟨b, i, none⟩ = .some (.int .i64 x) := by
  rcases h.at_ with h0 | h
  · rw [h0] at hn; simp at hn
  · exact h
theorem row_fr {S : Nat → Prop} {w w' : World} {B n : Nat} {e : TypeId} {v : Value} {xs : List Value} (h : w.ownsRow B e 1 v n xs) (f : Fr S w w') (hS : ∀ i, B ≤ i → i < w.heap.size → ¬ S i) : w'.ownsRow B e 1 v n xs := by
  obtain ⟨h1, h2 | ⟨g, cap, cur, hv, hg, hb, r⟩⟩ := h
  · exact ⟨h1, .inl h2⟩
  · exact ⟨h1, .inr ⟨g, cap, cur, hv, hg, (f.block g (lt_of_block hb) (hS g hg (lt_of_block hb))).trans hb, r⟩⟩
theorem infoI : (Try.prog.info? 3).map (fun i => (i.zero, i.size, i.bytes)) = some (some (.int .i64 0), 1, 8) := by kernel_rfl
theorem one_cell_n {w : World} {b : Nat} {t : TypeId} {c : Value} (h : w.heap[b]? = some (.cells #[c] t (0, 0))) : w.cell? ⟨b, 0, none⟩ = some c := by simp [World.cell?, h]
theorem app_one {w : World} {B : Nat} {v : Value} {l : List Int} (x : Int) (h : w.ownsRow B 3 1 v l.length (l.map zI)) (hB : B ≤ w.heap.size) (hl : l.length ≤ 8796093021952) :
    ∃ a' c' w', (Builtin.append_ #[23, 23] 23 #[v, .slice (some ⟨w.heap.size, 0, none⟩) 1 1]).run Try.prog (w.alloc (.cells #[.int .i64 x] 3)) = .ok (.slice a' (l.length + 1) c') w' ∧ w'.ownsRow B 3 1 (.slice a' (l.length + 1) c') (l ++ [x]).length ((l ++ [x]).map zI) ∧ Fr (fun k => B ≤ k) w w' := by
  obtain ⟨i, hi, hi1, hi2, hi3⟩ : ∃ i, Try.prog.info? 3 = some i ∧ i.zero = some (.int .i64 0) ∧ i.size = 1 ∧ i.bytes = 8 := by
    have := infoI
    cases hh : Try.prog.info? 3 with
    | none => rw [hh] at this; cases this
    | some i =>
      rw [hh] at this
      simp only [Option.map_some, Option.some.injEq, Prod.mk.injEq] at this
      exact ⟨i, rfl, this.1, this.2.1, this.2.2⟩
  have fb := Fr.box w (.cells #[.int .i64 x] 3)
  have hc : (w.alloc (.cells #[.int .i64 x] 3)).cell? ⟨w.heap.size, 0, none⟩ = some (.int .i64 x) := one_cell_n (heap_alloc_new w _)
  have h' := row_fr h fb (fun _ _ _ f => f)
  have hs1 := fb.size
  obtain ⟨v', w', hrun, hown, hgr, _⟩ := run_append_own (P := Try.prog) (w.alloc (.cells #[.int .i64 x] 3)) B 23 23 3 i (.int .i64 0) 1 8 Try.underlying23 hi hi1 hi2 hi3 rfl (by omega) v l.length (l.map zI) h' ⟨w.heap.size, 0, none⟩ 1 1 [.int .i64 x] rfl
    (fun j u hu => by
      cases j with
      | zero => simp at hu; subst hu; simp [Addr.add]
      | succ j => simp at hu) (fun u hu => by simp at hu; subst hu; rfl) (by unfold maxLen; omega) (by omega) (by omega)
  have e1 : l.map zI ++ [.int .i64 x] = (l ++ [x]).map zI := by simp [zI]
  have e2 : l.length + 1 = (l ++ [x]).length := by simp
  rw [e1, e2] at hown
  obtain ⟨a', c', rfl, _⟩ := Ir.of hown
  rw [← e2] at hown hrun ⊢
  refine ⟨a', c', w', hrun, hown, ?_⟩
  have fg : Fr (fun k => B ≤ k) (w.alloc (.cells #[.int .i64 x] 3)) w' := (Fr.refl _ _).grown hgr (fun k e _ => by
    rcases h.2 with ⟨rfl, _⟩ | ⟨g, cap, cur, rfl, hg, _⟩
    · simp [Value.ownBlock] at e
    · simp [Value.ownBlock] at e; omega)
  exact (fb.mono (T := fun k => B ≤ k) (fun i hi e => e.elim)).trans fg (fun i hi e => e)

/-- The least of the numbers, or an error. -/
def rdo (last : Int) : Int → List Int → Int × Int
  | least, [] => (least, 0)
  | least, n :: r => if n < 1 ∨ last < n then (0, 1) else rdo last (if n < least then n else least) r
def rdoF (l : List Int) (last : Int) : Int × Int := if last < 0 ∨ 1099511627775 < last then (0, 1) else rdo last (last + 1) l
theorem rdo_drop {last least : Int} {l : List Int} {k : Nat} {x : Int} (h : l[k]? = some x) : rdo last least (l.drop k) = if x < 1 ∨ last < x then (0, 1) else rdo last (if x < least then x else least) (l.drop (k + 1)) := by
  obtain ⟨hi, hx⟩ := List.getElem?_eq_some_iff.1 h
  rw [List.drop_eq_getElem_cons hi, hx, rdo]

theorem within_at (x a b : Int) (w : World) : Calls Try.prog 20 #[.int .i64 x, .int .i64 a, .int .i64 b] w fun e w' => e = .returned (.bool (wthB x a b)) ∧ w = w' := (within_any x a b w).mono (fun _ _ h => ⟨h.1, h.2.symm⟩)
set_option maxRecDepth 100000 in
set_option maxHeartbeats 2000000 in
theorem redo_any (a : Option Addr) (n cap : Nat) (ds : List Dy) (hn : n = ds.length) (last : Int) (w : World) (hr : Dys w a cap ds) :
    Calls Try.prog 7 #[.slice a n cap, .int .i64 last] w fun e w' => e = .returned (.tuple #[.int .i64 (rdoF (ds.map Dy.fst) last).1, .int .i64 (rdoF (ds.map Dy.fst) last).2]) ∧ Fr (fun _ => False) w w' := by
  by_cases hl : last < 0 ∨ 1099511627775 < last
  · have e1 : rdoF (ds.map Dy.fst) last = (0, 1) := if_pos hl
    rw [e1]
    have HB : Hid (wthB last 0 1099511627775 = false) := by show _ = _; unfold wthB; simp; omega
    clear e1 hl
    go_enter Try.func7, Try.ntmps7
    go_wp2_with (go_at_call 20; refine (within_at _ _ _ _).mono ?_; rw [HB.out]; rintro e w' ⟨rfl, rfl⟩)
    go_ret2
    exact ⟨rfl, Fr.refl _ _⟩
  · have e1 : rdoF (ds.map Dy.fst) last = rdo last (last + 1) (ds.map Dy.fst) := if_neg hl
    have HB : Hid (wthB last 0 1099511627775 = true) := by show _ = _; unfold wthB; simp; omega
    obtain ⟨r, hrr⟩ : ∃ r, r = rdoF (ds.map Dy.fst) last := ⟨_, rfl⟩
    rw [← hrr] at e1 ⊢
    have HR : Hid (r = rdo last (last + 1) (ds.map Dy.fst)) := e1
    have hl0 : 0 ≤ last := by omega
    have hl1 : last ≤ 1099511627775 := by omega
    have hw : IntKind.i64.wrap (last + 1) = last + 1 := by rw [IntKind.wrap_i64]; omega
    clear hrr e1 hl
    have hle := hr.le
    have hmx := hr.max
    go_enter Try.func7, Try.ntmps7
    go_wp2_with (go_at_call 20; refine (within_at _ _ _ _).mono ?_; rw [HB.out]; rintro e w' ⟨rfl, rfl⟩)
    go_loopw [6, 16] (fun u i wr => ∃ (k : Nat) (m : Int), k ≤ n ∧ u = .int .i64 m ∧ i = .int .i64 k ∧ Hid (r = rdo last m ((ds.map Dy.fst).drop k)) ∧ Fr (fun _ => False) w wr)
      (fun _ i _ => n - (intOf i).toNat)
    case atStart => exact ⟨0, last + 1, by omega, rfl, rfl, HR.out, Fr.refl _ _⟩
    case round =>
      obtain ⟨k, m, hk, rfl, rfl, HK, hf⟩ := hrel
      by_cases hlt : k < n
      · obtain ⟨d, hd⟩ : ∃ d, ds[k]? = some d := ⟨ds[k]'(by omega), List.getElem?_eq_getElem (by omega)⟩
        obtain ⟨b, off, rfl, hb, hc⟩ := hr.some (by omega)
        obtain ⟨c0, c1⟩ := hc k d hd
        obtain ⟨pg, f⟩ := d
        have c0' := (hf.cell (p := ⟨b, off + k * 2, none⟩) hb (fun f => f)).trans c0
        have c1' := (hf.cell (p := ⟨b, off + k * 2 + 1, none⟩) hb (fun f => f)).trans c1
        have hx : (ds.map Dy.fst)[k]? = some f := by rw [List.getElem?_map, hd]; rfl
        have HK2 : Hid (r = if f < 1 ∨ last < f then (0, 1) else rdo last (if f < m then f else m) ((ds.map Dy.fst).drop (k + 1))) := by show _ = _; rw [HK.out, rdo_drop hx]
        clear HK hx hd hc c0 c1 HR
        obtain ⟨q, hq⟩ : ∃ q, q = wr.heap.size := ⟨_, rfl⟩
        obtain ⟨W1, hW1⟩ : ∃ W1, W1 = wr.alloc (.cells #[.int .i64 pg, .int .i64 f] 25) := ⟨_, rfl⟩
        have fb : Fr (fun _ => False) wr W1 := by rw [hW1]; exact Fr.box wr _
        have hx2 : W1.heap[q]? = some (.cells #[.int .i64 pg, .int .i64 f] 25 (0, 0)) := by rw [hW1, hq]; exact heap_alloc_new wr _
        have HW1 : Hid (wr.alloc (.cells #[.int .i64 pg, .int .i64 f] 25) = W1) := hW1.symm
        have HQ1 : Hid (wr.heap.size = q) := hq.symm
        have F1 : Hid (Fr (fun _ => False) w W1) := hf.seq' fb
        obtain ⟨d0, d1, _, _⟩ := cell_of_two hx2
        clear hW1 hq fb hx2
        go_upto_region 7 with fail
        rw [HW1.out, HQ1.out]
        by_cases hf1 : f < 1 ∨ last < f
        · have er : r = (0, 1) := by rw [HK2.out, if_pos hf1]
          have HB2 : Hid (wthB f 1 last = false) := by show _ = _; unfold wthB; simp; omega
          clear HK2 hf1
          subst er
          go_wp2_with (go_at_call 20; refine (within_at _ _ _ _).mono ?_; rw [HB2.out]; rintro e w' ⟨rfl, rfl⟩)
          go_ret2
          exact ⟨rfl, F1.out⟩
        · have HB2 : Hid (wthB f 1 last = true) := by show _ = _; unfold wthB; simp; omega
          have HK3 : Hid (r = rdo last (if f < m then f else m) ((ds.map Dy.fst).drop (k + 1))) := by show _ = _; rw [HK2.out, if_neg hf1]
          have hf2 : 1 ≤ f := by omega
          have hf3 : f ≤ last := by omega
          clear HK2 hf1
          by_cases hm : f < m
          · have HK4 : Hid (r = rdo last f ((ds.map Dy.fst).drop (k + 1))) := by show _ = _; rw [HK3.out, if_pos hm]
            clear HK3
            go_wp2_with (go_at_call 20; refine (within_at _ _ _ _).mono ?_; rw [HB2.out]; rintro e w' ⟨rfl, rfl⟩)
            go_roundw
            case rel => exact ⟨k + 1, f, by omega, rfl, by go_num, HK4.out, F1.out⟩
            case measure => simp [intOf]; omega
          · have HK4 : Hid (r = rdo last m ((ds.map Dy.fst).drop (k + 1))) := by show _ = _; rw [HK3.out, if_neg hm]
            clear HK3
            go_wp2_with (go_at_call 20; refine (within_at _ _ _ _).mono ?_; rw [HB2.out]; rintro e w' ⟨rfl, rfl⟩)
            go_roundw
            case rel => exact ⟨k + 1, m, by omega, rfl, by go_num, HK4.out, F1.out⟩
            case measure => simp [intOf]; omega
      · have hkn : k = n := by omega
        have er : r = (m, 0) := by rw [HK.out, List.drop_eq_nil_of_le (by rw [List.length_map]; omega)]; rfl
        clear HK HR
        subst er
        go_wp2
        go_ret2
        exact ⟨rfl, hf⟩

set_option maxRecDepth 100000 in
set_option maxHeartbeats 2000000 in
theorem rredo_any (B : Nat) (a : Option Addr) (n cap : Nat) (ts : List Int) (hn : n = ts.length) (last : Int) (w : World) (hr : Ir w B a cap ts) :
    Calls Try.prog 8 #[.slice a n cap, .int .i64 last] w fun e w' => e = .returned (.tuple #[.int .i64 (rdoF ts last).1, .int .i64 (rdoF ts last).2]) ∧ w = w' := by
  by_cases hl : last < 0 ∨ 1099511627775 < last
  · have e1 : rdoF ts last = (0, 1) := if_pos hl
    rw [e1]
    clear e1
    by_cases h0 : last < 0
    · clear hl
      go_enter Try.func8, Try.ntmps8
      go_wp2
      go_ret2
      exact ⟨rfl, rfl⟩
    · have h1 : 1099511627776 ≤ last := by omega
      clear hl
      go_enter Try.func8, Try.ntmps8
      go_wp2
      go_ret2
      exact ⟨rfl, rfl⟩
  · have e1 : rdoF ts last = rdo last (last + 1) ts := if_neg hl
    obtain ⟨r, hrr⟩ : ∃ r, r = rdoF ts last := ⟨_, rfl⟩
    rw [← hrr] at e1 ⊢
    have HR : Hid (r = rdo last (last + 1) ts) := e1
    have hl0 : ¬ last < 0 := by omega
    have hl1 : ¬ 1099511627776 ≤ last := by omega
    have hw : IntKind.i64.wrap (last + 1) = last + 1 := by rw [IntKind.wrap_i64]; omega
    clear hrr e1 hl
    have hle := hr.le
    have hmx := hr.max
    go_enter Try.func8, Try.ntmps8
    go_wp2
    go_loopw [6, 8, 19] (fun u x i wr => ∃ (k : Nat) (m : Int), k ≤ n ∧ u = .int .i64 m ∧ i = .int .i64 k ∧ Hid (r = rdo last m (ts.drop k)) ∧ wr = w)
      (fun _ _ i _ => n - (intOf i).toNat)
    case atStart => exact ⟨0, last + 1, by omega, rfl, rfl, HR.out, rfl⟩
    case round =>
      obtain ⟨k, m, hk, rfl, rfl, HK, rfl⟩ := hrel
      by_cases hlt : k < n
      · obtain ⟨f, hd⟩ : ∃ d, ts[k]? = some d := ⟨ts[k]'(by omega), List.getElem?_eq_getElem (by omega)⟩
        obtain ⟨b, rfl, hB, hb, hc⟩ := hr.some (by omega)
        have c0 := hc k f hd
        have HK2 : Hid (r = if f < 1 ∨ last < f then (0, 1) else rdo last (if f < m then f else m) (ts.drop (k + 1))) := by show _ = _; rw [HK.out, rdo_drop hd]
        clear HK hd hc HR
        by_cases hf1 : f < 1 ∨ last < f
        · have er : r = (0, 1) := by rw [HK2.out, if_pos hf1]
          clear HK2
          subst er
          by_cases hf2 : f < 1
          · clear hf1
            go_wp2
            go_ret2
            exact ⟨rfl, rfl⟩
          · have hf3 : last < f := by omega
            clear hf1
            go_wp2
            go_ret2
            exact ⟨rfl, rfl⟩
        · have HK3 : Hid (r = rdo last (if f < m then f else m) (ts.drop (k + 1))) := by show _ = _; rw [HK2.out, if_neg hf1]
          have hf2 : ¬ f < 1 := by omega
          have hf3 : ¬ last < f := by omega
          clear HK2 hf1
          by_cases hm : f < m
          · have HK4 : Hid (r = rdo last f (ts.drop (k + 1))) := by show _ = _; rw [HK3.out, if_pos hm]
            clear HK3
            go_wp2
            go_roundw
            case rel => exact ⟨k + 1, f, by omega, rfl, by go_num, HK4.out, by trivial⟩
            case measure => simp [intOf]; omega
          · have HK4 : Hid (r = rdo last m (ts.drop (k + 1))) := by show _ = _; rw [HK3.out, if_neg hm]
            clear HK3
            go_wp2
            go_roundw
            case rel => exact ⟨k + 1, m, by omega, rfl, by go_num, HK4.out, by trivial⟩
            case measure => simp [intOf]; omega
      · have hkn : k = n := by omega
        have er : r = (m, 0) := by rw [HK.out, List.drop_eq_nil_of_le (by omega)]; rfl
        clear HK HR
        subst er
        go_wp2
        go_ret2
        exact ⟨rfl, rfl⟩
end Go.Proofs.Ytjhbhjakbcplgaa
