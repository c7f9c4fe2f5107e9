
/- BkMap, BkBel. -/
import Derived.Test.YtnckmajfmkkpgaaGreatBZ2
import Derived.Maps.OwnSet
import Derived.Maps.RangeWalk
import Derived.Deep.QuietTactic
import Derived.BigQuiet
/- A map from pages to pages of a row, in memory. -/
namespace Go.Proofs.YtnckmajfmkkpgaaGreat
open Go.RowKit
open Go.Maps (Keyed)

abbrev Smap := Int → Option Spt
def supd (M : Smap) (x : Int) (v : Option Spt) : Smap := fun y => if y = x then v else M y
theorem supd_same (M : Smap) (x : Int) (v : Option Spt) : supd M x v x = v := if_pos rfl
theorem supd_other {M : Smap} {x y : Int} (v : Option Spt) (h : y ≠ x) : supd M x v y = M y := if_neg h
/-- A map's element is read as it lies there. -/
def vR : Value → Option (DataW Value × List MemPlace) := fun v => some (.held v, [])
def spV (s : Spt) : Value := (.agg #[.int .i64 s.page, .int .i64 s.nd.lev, .int .i64 s.nd.lsn, .int .i64 s.nd.rgt, .string s.nd.high, .slice s.pt.k s.nd.keys.length s.pt.kc, .slice s.pt.v s.nd.vals.length s.pt.vc, .slice s.pt.i s.nd.kids.length s.pt.ic, .string s.low])
def sp0 : Spt := ⟨0, zn, zp, ⟨#[]⟩⟩
def swf (x : Int) : Prop := (Lit.int .i64 x).wf = true
theorem swf_of {x : Int} (h : -9223372036854775808 ≤ x ∧ x ≤ 9223372036854775807) : swf x := by
  unfold swf
  have e1 : IntKind.i64.min = -9223372036854775808 := by decide
  have e2 : IntKind.i64.max = 9223372036854775807 := by decide
  simp [Lit.wf]
  omega
/-- A datum says what a plain map says. -/
structure SLike (D : DataW Value) (M : Smap) : Prop where
  has : ∀ x, swf x → Maps.has D (.int .i64 x) = (M x).isSome
  at_ : ∀ x s, swf x → M x = some s → ∀ z, D.atKey (.int .i64 x) z = .held (spV s)
theorem skeyed : Keyed Tryz.prog 3 := Maps.int_keyed Tryz.underlying3
theorem skey {x : Int} (h : swf x) : keyOf Tryz.prog 3 (.int .i64 x) = some (.int .i64 x) := Maps.keyOf_int_mk Tryz.underlying3 h
theorem szero (w : World) : (zeroValue 73).run Tryz.prog w = .ok (spV sp0) w := by kernel_rfl
def Sm (w : World) (b n : Nat) (M : Smap) : Prop := ∃ D, w.ownsMap Tryz.prog 3 vR b n D ∧ Maps.size D = n ∧ SLike D M
theorem sownsMap_fit {w : World} {b n : Nat} {D : DataW Value} (h : w.ownsMap Tryz.prog 3 vR b n D) : w.ownsMap Tryz.prog 3 vR b (Maps.size D) D := by
  obtain ⟨es, clock, hb, F, hs, rfl⟩ := h
  exact ⟨es, clock, hb, F, by simp [Maps.size, length_sorted], rfl⟩
theorem Sm.lt {w : World} {b n : Nat} {M : Smap} (h : Sm w b n M) : b < w.heap.size := by
  obtain ⟨D, h1, _⟩ := h
  exact h1.lt
theorem Sm.fr {S : Nat → Prop} {w w' : World} {b n : Nat} {M : Smap} (h : Sm w b n M) (f : Fr S w w') (hn : ¬ S b) : Sm w' b n M := by
  obtain ⟨D, h1, h2⟩ := h
  refine ⟨D, ?_, h2⟩
  have hlt := h1.lt
  obtain ⟨es, clock, hb, r⟩ := h1
  exact ⟨es, clock, (f.block b hlt hn).trans hb, r⟩
theorem Sm.same {w w' : World} {b n : Nat} {M : Smap} (h : Sm w b n M) (f : Fr (fun _ => False) w w') : Sm w' b n M := h.fr f (fun f => f)
theorem Sm.made (w : World) : Sm (w.alloc (.map #[] 0)) w.heap.size 0 (fun _ => none) :=
  ⟨.map [], World.ownsMap_made w Tryz.prog 3 vR, rfl, ⟨fun _ _ => rfl, (fun _ _ _ h => by cases h)⟩⟩
theorem Sm.look {w : World} {b n : Nat} {M : Smap} (h : Sm w b n M) {x : Int} (hx : swf x) :
    (Instr.lookup 92 (.map (some b)) (.int .i64 x) true).run Tryz.prog w = .ok (.tuple #[spV ((M x).getD sp0), .bool (M x).isSome]) w := by
  obtain ⟨D, h1, _, hl⟩ := h
  obtain ⟨v, ps, hrun, hv⟩ := h1.look_ok skeyed Tryz.underlying92 (szero w) (show vR (spV sp0) = some (.held (spV sp0), []) from rfl) (skey hx)
  have hd : D.atKey (.int .i64 x) (.held (spV sp0)) = .held (spV ((M x).getD sp0)) := by
    cases hm : M x with
    | none =>
      have := hl.has x hx
      rw [hm] at this
      exact Maps.atKey_of_not_has this _
    | some s => exact hl.at_ x s hx hm _
  rw [hd] at hv
  simp only [vR, Option.some.injEq, Prod.mk.injEq, DataW.held.injEq] at hv
  rw [hrun, hl.has x hx, hv.1]
theorem slit_ne {x y : Int} (h : x ≠ y) : (Lit.int .i64 x) ≠ (Lit.int .i64 y) := fun e => by cases e; exact h rfl
theorem Fr.sturned {w w' : World} {b : Nat} (h : w.mapTurned w' b) : Fr (fun k => k = b) w w' := (Fr.refl _ w).grown h.grown (fun k e _ => by simp only [Option.some.injEq] at e; exact e.symm)
theorem Sm.store {w : World} {b n : Nat} {M : Smap} (h : Sm w b n M) (hn : n ≤ 1000000) {x : Int} (hxw : swf x) (s : Spt) :
    ∃ w' n', (Instr.mapUpdate 92 (.map (some b)) (.int .i64 x) (.agg #[.int .i64 s.page, .int .i64 s.nd.lev, .int .i64 s.nd.lsn, .int .i64 s.nd.rgt, .string s.nd.high, .slice s.pt.k s.nd.keys.length s.pt.kc, .slice s.pt.v s.nd.vals.length s.pt.vc, .slice s.pt.i s.nd.kids.length s.pt.ic, .string s.low])).run Tryz.prog w = .ok () w' ∧ n' ≤ n + 1 ∧ Sm w' b n' (supd M x (some s)) ∧ Fr (fun k => k = b) w w' := by
  obtain ⟨D, h1, h2, hl⟩ := h
  obtain ⟨w', hrun, hown, hturn⟩ := h1.store skeyed Tryz.underlying92 (by unfold maxLen; omega) (skey hxw) (show vR (.agg #[.int .i64 s.page, .int .i64 s.nd.lev, .int .i64 s.nd.lsn, .int .i64 s.nd.rgt, .string s.nd.high, .slice s.pt.k s.nd.keys.length s.pt.kc, .slice s.pt.v s.nd.vals.length s.pt.vc, .slice s.pt.i s.nd.kids.length s.pt.ic, .string s.low]) = some (.held (spV s), []) from rfl)
  have hm := h1.isMap
  have hkl : WideAt.IsKeyLit (Lit.int .i64 x) := trivial
  have hsz : Maps.size (D.put (.int .i64 x) (.held (spV s))) = if (M x).isSome = true then n else n + 1 := by
    rw [Maps.size_put (h1.tidy skeyed), hl.has x hxw, h2]
  refine ⟨w', _, hrun, ?_, ⟨_, sownsMap_fit hown, rfl, ⟨fun y hy => ?_, fun y k hy hk z => ?_⟩⟩, Fr.sturned hturn⟩
  · rw [hsz]; split <;> omega
  · by_cases e : y = x
    · subst e; rw [supd_same, Maps.has_put_same hm hkl]; rfl
    · rw [supd_other _ e, Maps.has_put_other (slit_ne e), hl.has y hy]
  · by_cases e : y = x
    · subst e
      rw [supd_same] at hk
      simp only [Option.some.injEq] at hk
      subst hk
      exact Maps.atKey_put_same hm hkl _ _
    · rw [supd_other _ e] at hk
      rw [Maps.atKey_put_other (slit_ne e)]
      exact hl.at_ y k hy hk z
end Go.Proofs.YtnckmajfmkkpgaaGreat

/- Whether each kid of a row is a page of the row below, with its low end. -/
namespace Go.Proofs.YtnckmajfmkkpgaaGreat
open Go.RowKit

/-- The last page of that number. -/
def sm (row : List Spt) : Smap := fun x => row.reverse.find? (fun s => s.page == x)
theorem sm_snoc (row : List Spt) (s : Spt) : sm (row ++ [s]) = supd (sm row) s.page (some s) := by
  funext x
  unfold sm supd
  rw [List.reverse_append, List.reverse_cons, List.reverse_nil, List.nil_append, List.singleton_append, List.find?_cons]
  by_cases h : x = s.page
  · subst h; simp
  · rw [if_neg h]
    have : (s.page == x) = false := by simpa using fun e => h e.symm
    rw [this]
def kl1B (M : Smap) (low : ByteArray) (kid : Int) : Bool := (M kid).isSome && (((M kid).getD sp0).low.toList == low.toList)
def klB (M : Smap) (low : ByteArray) (keys : List ByteArray) : Nat → List Int → Bool
  | _, [] => true
  | i, y :: ys => kl1B M (if i = 0 then low else keys.getD (i - 1) ByteArray.empty) y && klB M low keys (i + 1) ys
def belB (row above : List Spt) : Bool := if above = [] then decide (row.length = 1) else above.all (fun s => klB (sm row) s.low s.nd.keys 0 s.nd.kids)
theorem kids_next (M : Smap) (low : ByteArray) (keys : List ByteArray) {kids : List Int} {j : Nat} {y : Int} (h : kids[j]? = some y) : klB M low keys j (kids.drop j) = (kl1B M (if j = 0 then low else keys.getD (j - 1) ByteArray.empty) y && klB M low keys (j + 1) (kids.drop (j + 1))) := by
  have hj := (List.getElem?_eq_some_iff.1 h).1
  rw [List.drop_eq_getElem_cons hj, (List.getElem?_eq_some_iff.1 h).2]
  rfl
theorem stake_snoc {l : List Spt} {k : Nat} {s : Spt} (h : l[k]? = some s) : l.take (k + 1) = l.take k ++ [s] := by
  obtain ⟨hk, e⟩ := List.getElem?_eq_some_iff.1 h
  rw [← e, List.take_succ_eq_append_getElem hk]
theorem isBelow_none (a a2 : Option Addr) (n c c2 : Nat) (row : List Spt) (hn : n = row.length) (w : World) : Calls Tryz.prog 26 #[.slice a n c, .slice a2 0 c2] w fun e w' => e = .returned (.bool (belB row [])) ∧ Fr (fun _ => False) w w' := by
  have HR : Hid (belB row [] = ((n : Int) == 1)) := by
    show _ = _
    unfold belB
    rw [if_pos rfl, ← hn, Bool.eq_iff_iff]
    simp
    omega
  clear hn
  go_enter Tryz.func26, Tryz.ntmps26
  go_wp2
  go_ret
  exact ⟨ret_bool HR.out.symm, Fr.refl _ _⟩
set_option maxRecDepth 100000 in
set_option maxHeartbeats 8000000 in
theorem isBelow_some (a a2 : Option Addr) (n c n2 c2 : Nat) (row above : List Spt) (hn : n = row.length) (hn2 : n2 = above.length) (h0 : 0 < n2) (hf : n ≤ 100000) (hp : ∀ s ∈ row, swf s.page) (hq : ∀ s ∈ above, (∀ y ∈ s.nd.kids, swf y) ∧ s.nd.kids.length ≤ s.nd.keys.length + 1) (w : World) (h : Spots w a c row) (h2 : Spots w a2 c2 above) : Calls Tryz.prog 26 #[.slice a n c, .slice a2 n2 c2] w fun e w' => e = .returned (.bool (belB row above)) ∧ Fr (fun _ => False) w w' := by
  have hle : n ≤ c := by rw [hn]; exact h.le
  have hmx := h.max
  have hle2 : n2 ≤ c2 := by rw [hn2]; exact h2.le
  have hmx2 := h2.max
  have HS : Hid (∀ W, Fr (fun _ => False) w W → Spots W a c row) := fun W f => h.same f
  have HS2 : Hid (∀ W, Fr (fun _ => False) w W → Spots W a2 c2 above) := fun W f => h2.same f
  have HN : Hid (n = row.length) := hn
  have HN2 : Hid (n2 = above.length) := hn2
  have HP : Hid (∀ s ∈ row, swf s.page) := hp
  have HQ : Hid (∀ s ∈ above, (∀ y ∈ s.nd.kids, swf y) ∧ s.nd.kids.length ≤ s.nd.keys.length + 1) := hq
  have HEV : Hid (belB row above = above.all (fun s => klB (sm row) s.low s.nd.keys 0 s.nd.kids)) := by
    show _ = _
    unfold belB
    rw [if_neg (by intro e; rw [e] at hn2; simp at hn2; omega)]
  have hmm := @run_makeMap Tryz.prog
  have hz0 : ((n2 : Int) == 0) = false := by simp; omega
  have HM0 : Hid (Sm (w.alloc (.map #[] 0)) w.heap.size 0 (fun _ => none)) := Sm.made w
  clear h h2 hn hn2 hp hq
  go_enter Tryz.func26, Tryz.ntmps26
  go_wp2
  go_loopw [24] (fun i wr => ∃ (k m : Nat), k ≤ n ∧ i = .int .i64 k ∧ m ≤ k ∧ Hid (Sm wr w.heap.size m (sm (row.take k))) ∧ Fr (fun _ => False) w wr) (fun i _ => n - (intOf i).toNat)
  case atStart => exact ⟨0, 0, by omega, rfl, by omega, HM0, Fr.box w _⟩
  case round =>
    obtain ⟨k, m, hk, rfl, hm, HM, F⟩ := hrel
    by_cases hlt : k < n
    · obtain ⟨s, hs⟩ : ∃ s, row[k]? = some s := ⟨_, List.getElem?_eq_getElem (by have := HN.out; omega)⟩
      obtain ⟨b, off, rfl, hb, hc⟩ := (HS.out _ F).some (by have := HN.out; omega)
      obtain ⟨q0, q1, q2, q3, q4, q5, q6, q7, q8⟩ := sp_range (hc k s hs)
      have hki : (k : Int) < (n : Int) := by omega
      have FB := F.alloc (.cells #[.int .i64 s.page, .int .i64 s.nd.lev, .int .i64 s.nd.lsn, .int .i64 s.nd.rgt, .string s.nd.high, .slice s.pt.k s.nd.keys.length s.pt.kc, .slice s.pt.v s.nd.vals.length s.pt.vc, .slice s.pt.i s.nd.kids.length s.pt.ic, .string s.low] 73)
      obtain ⟨w5, m5, hrun, hm5, hsm, hfr⟩ := (HM.out.same (Fr.box wr (.cells #[.int .i64 s.page, .int .i64 s.nd.lev, .int .i64 s.nd.lsn, .int .i64 s.nd.rgt, .string s.nd.high, .slice s.pt.k s.nd.keys.length s.pt.kc, .slice s.pt.v s.nd.vals.length s.pt.vc, .slice s.pt.i s.nd.kids.length s.pt.ic, .string s.low] 73))).store (by omega) (HP.out s (List.mem_of_getElem? hs)) s
      have HM5 : Hid (Sm w5 w.heap.size m5 (sm (row.take (k + 1)))) := by show Sm _ _ _ _; rw [stake_snoc hs, sm_snoc]; exact hsm
      have F5 : Fr (fun _ => False) w w5 := FB.trans hfr (fun i hi e => by omega)
      clear hs hc hsm hfr HM
      go_wp2
      go_roundw
      case rel => exact ⟨k + 1, m5, by omega, by go_num, by omega, HM5, F5⟩
      case measure => simp [intOf]; omega
    · obtain rfl : k = n := by omega
      have HM1 : Hid (Sm wr w.heap.size m (sm row)) := by
        have := HM.out
        rw [List.take_of_length_le (by have := HN.out; omega)] at this
        exact this
      clear HM hm
      go_wp2
      go_loopw [35] (fun i wr => ∃ (k : Nat), k ≤ n2 ∧ i = .int .i64 k ∧ Hid ((above.drop k).all (fun s => klB (sm row) s.low s.nd.keys 0 s.nd.kids) = above.all (fun s => klB (sm row) s.low s.nd.keys 0 s.nd.kids)) ∧ Hid (Sm wr w.heap.size m (sm row)) ∧ Fr (fun _ => False) w wr) (fun i _ => n2 - (intOf i).toNat)
      case atStart => exact ⟨0, by omega, rfl, rfl, HM1, F⟩
      case round =>
        clear F HM1
        obtain ⟨i, hi, rfl, HE, HM, F⟩ := hrel
        by_cases hlt : i < n2
        · obtain ⟨s, hs⟩ : ∃ s, above[i]? = some s := ⟨_, List.getElem?_eq_getElem (by have := HN2.out; omega)⟩
          obtain ⟨b, off, rfl, hb, hc⟩ := (HS2.out _ F).some (by have := HN2.out; omega)
          have hqq := sp_range (hc i s hs)
          have HQS := HQ.out s (List.mem_of_getElem? hs)
          have HNX0 := all_next (f := fun s => klB (sm row) s.low s.nd.keys 0 s.nd.kids) hs
          have hnod := (HS2.out _ F).nod s (List.mem_of_getElem? hs)
          obtain ⟨page, nd, ⟨pk, kc, pv, vc, pi, ic⟩, low⟩ := s
          dsimp only at hqq HQS HNX0 hnod
          obtain ⟨q0, q1, q2, q3, q4, q5, q6, q7, q8⟩ := hqq
          have HNX : Hid ((above.drop i).all (fun s => klB (sm row) s.low s.nd.keys 0 s.nd.kids) = (klB (sm row) low nd.keys 0 nd.kids && (above.drop (i + 1)).all (fun s => klB (sm row) s.low s.nd.keys 0 s.nd.kids))) := HNX0
          have HKW : Hid ((∀ y ∈ nd.kids, swf y) ∧ nd.kids.length ≤ nd.keys.length + 1) := HQS
          have hil := hnod.kids.le
          have him := hnod.kids.max
          have hkl := hnod.keys.le
          have hkm := hnod.keys.max
          have hki : (i : Int) < (n2 : Int) := by omega
          have FB := F.alloc (.cells #[.int .i64 page, .int .i64 nd.lev, .int .i64 nd.lsn, .int .i64 nd.rgt, .string nd.high, .slice pk nd.keys.length kc, .slice pv nd.vals.length vc, .slice pi nd.kids.length ic, .string low] 73)
          have HBX : Hid (∀ W, Fr (fun _ => False) (wr.alloc (.cells #[.int .i64 page, .int .i64 nd.lev, .int .i64 nd.lsn, .int .i64 nd.rgt, .string nd.high, .slice pk nd.keys.length kc, .slice pv nd.vals.length vc, .slice pi nd.kids.length ic, .string low] 73)) W → W.heap[wr.heap.size]? = some (.cells #[.int .i64 page, .int .i64 nd.lev, .int .i64 nd.lsn, .int .i64 nd.rgt, .string nd.high, .slice pk nd.keys.length kc, .slice pv nd.vals.length vc, .slice pi nd.kids.length ic, .string low] 73 (0, 0))) := fun W f => f.blk (heap_alloc_new wr _) (fun f => f)
          have HKI : Hid (∀ W, Fr (fun _ => False) w W → Ints W pi ic nd.kids) := fun W f => ((HS2.out _ f).nod _ (List.mem_of_getElem? hs)).kids
          have HKK : Hid (∀ W, Fr (fun _ => False) w W → Strs W pk kc nd.keys) := fun W f => ((HS2.out _ f).nod _ (List.mem_of_getElem? hs)).keys
          have HMB : Hid (Sm (wr.alloc (.cells #[.int .i64 page, .int .i64 nd.lev, .int .i64 nd.lsn, .int .i64 nd.rgt, .string nd.high, .slice pk nd.keys.length kc, .slice pv nd.vals.length vc, .slice pi nd.kids.length ic, .string low] 73)) w.heap.size m (sm row)) := HM.out.same (Fr.box _ _)
          clear hs hc HQS HNX0 hnod HM
          rename World => W9
          go_wp2
          go_loopw [45, 10] (fun jv lw wr => ∃ (j : Nat) (lo : ByteArray), j ≤ nd.kids.length ∧ jv = .int .i64 j ∧ lw = .string lo ∧ Hid (j = 0 → lo = low) ∧ Hid (klB (sm row) low nd.keys j (nd.kids.drop j) = klB (sm row) low nd.keys 0 nd.kids) ∧ Hid (Sm wr w.heap.size m (sm row)) ∧ Fr (fun _ => False) (W9.alloc (.cells #[.int .i64 page, .int .i64 nd.lev, .int .i64 nd.lsn, .int .i64 nd.rgt, .string nd.high, .slice pk nd.keys.length kc, .slice pv nd.vals.length vc, .slice pi nd.kids.length ic, .string low] 73)) wr) (fun jv _ _ => nd.kids.length - (intOf jv).toNat)
          case atStart => exact ⟨0, low, by omega, rfl, rfl, fun _ => rfl, rfl, HMB, Fr.refl _ _⟩
          case round =>
            obtain ⟨j, lo, hj, rfl, rfl, HL, HEE, HM, G⟩ := hrel
            have FG := FB.seq' G
            obtain ⟨d0, d1, d2, d3, d4, d5, d6, d7, d8⟩ := nine_cells (HBX.out _ G)
            by_cases hjt : j < nd.kids.length
            · obtain ⟨bi, oi, rfl, hbi, hci⟩ := ints_some (HKI.out _ FG) hjt
              have k0 := hci j hjt
              have hsj : nd.kids[j]? = some (nd.kids.getD j 0) := by rw [List.getD_eq_getElem?_getD, List.getElem?_eq_getElem hjt]; rfl
              obtain ⟨y, hy⟩ : ∃ y, y = nd.kids.getD j 0 := ⟨_, rfl⟩
              rw [← hy] at k0 hsj
              have HY := kids_next (sm row) low nd.keys hsj
              have hyw := HKW.out.1 y (List.mem_of_getElem? hsj)
              have hji : (j : Int) < (nd.kids.length : Int) := by omega
              have hlk := HM.out.look hyw
              obtain ⟨t, ht⟩ : ∃ t, t = ((sm row) y).getD sp0 := ⟨_, rfl⟩
              obtain ⟨tb, htb⟩ : ∃ b, b = ((sm row) y).isSome := ⟨_, rfl⟩
              rw [← ht, ← htb] at hlk
              unfold spV at hlk
              have HY0 : Hid (klB (sm row) low nd.keys j (nd.kids.drop j) = (kl1B (sm row) (if j = 0 then low else nd.keys.getD (j - 1) ByteArray.empty) y && klB (sm row) low nd.keys (j + 1) (nd.kids.drop (j + 1)))) := HY
              clear HY hsj hy hci
              cases j with
              | zero =>
                obtain rfl := HL.out rfl
                have HY : Hid (klB (sm row) lo nd.keys 0 (nd.kids.drop 0) = (kl1B (sm row) lo y && klB (sm row) lo nd.keys (0 + 1) (nd.kids.drop (0 + 1)))) := HY0.out
                rw [Nat.add_zero] at k0
                have hj0 : (0 : Int) < (nd.kids.length : Int) := by omega
                clear HY0 HL hji
                have HKB : Hid (kl1B (sm row) lo y = (tb && (t.low.toList == lo.toList))) := by show _ = _; rw [htb, ht]; rfl
                clear ht htb
                have HMB2 : Hid (Sm (wr.alloc (.cells #[.int .i64 t.page, .int .i64 t.nd.lev, .int .i64 t.nd.lsn, .int .i64 t.nd.rgt, .string t.nd.high, .slice t.pt.k t.nd.keys.length t.pt.kc, .slice t.pt.v t.nd.vals.length t.pt.vc, .slice t.pt.i t.nd.kids.length t.pt.ic, .string t.low] 73)) w.heap.size m (sm row)) := HM.out.same (Fr.box _ _)
                have FE := FG.alloc (.cells #[.int .i64 t.page, .int .i64 t.nd.lev, .int .i64 t.nd.lsn, .int .i64 t.nd.rgt, .string t.nd.high, .slice t.pt.k t.nd.keys.length t.pt.kc, .slice t.pt.v t.nd.vals.length t.pt.vc, .slice t.pt.i t.nd.kids.length t.pt.ic, .string t.low] 73)
                have GE := G.alloc (.cells #[.int .i64 t.page, .int .i64 t.nd.lev, .int .i64 t.nd.lsn, .int .i64 t.nd.rgt, .string t.nd.high, .slice t.pt.k t.nd.keys.length t.pt.kc, .slice t.pt.v t.nd.vals.length t.pt.vc, .slice t.pt.i t.nd.kids.length t.pt.ic, .string t.low] 73)
                cases tb
                · have HR : Hid (belB row above = false) := by show _ = _; rw [HEV.out, ← HE.out, HNX.out, ← HEE.out, HY.out, HKB.out]; rfl
                  go_wp2
                  go_ret
                  exact ⟨ret_bool HR.out.symm, FE⟩
                · obtain ⟨b4, h4⟩ : ∃ b, b = (t.low.toList == lo.toList) := ⟨_, rfl⟩
                  rw [← h4] at HKB
                  have e4 : (t.low.toList != lo.toList) = !b4 := by rw [h4]; rfl
                  have e5 := h4.symm
                  clear h4
                  cases b4
                  · have HR : Hid (belB row above = false) := by show _ = _; rw [HEV.out, ← HE.out, HNX.out, ← HEE.out, HY.out, HKB.out]; rfl
                    go_wp2
                    go_ret
                    exact ⟨ret_bool HR.out.symm, FE⟩
                  · have HR : Hid (klB (sm row) lo nd.keys (0 + 1) (nd.kids.drop (0 + 1)) = klB (sm row) lo nd.keys 0 nd.kids) := by show _ = _; rw [← HEE.out, HY.out, HKB.out]; rfl
                    go_wp2
                    go_roundw
                    case rel => exact ⟨0 + 1, lo, by omega, by go_num, rfl, (fun h => by omega), HR, HMB2, GE⟩
                    case measure => simp [intOf]; omega
              | succ j =>
                obtain ⟨bk, ok, rfl, hbk, hck⟩ := strs_some (HKK.out _ FG) (k := j) (by have := HKW.out.2; omega)
                have kk := hck j (by have := HKW.out.2; omega)
                have hjk : (j : Int) < (nd.keys.length : Int) := by have := HKW.out.2; omega
                obtain ⟨x, hx⟩ : ∃ x, x = nd.keys.getD j ByteArray.empty := ⟨_, rfl⟩
                rw [← hx] at kk
                have HY : Hid (klB (sm row) low nd.keys (j + 1) (nd.kids.drop (j + 1)) = (kl1B (sm row) x y && klB (sm row) low nd.keys (j + 1 + 1) (nd.kids.drop (j + 1 + 1)))) := by show _ = _; rw [HY0.out, hx]; rfl
                clear HY0 HL hck hx
                have HKB : Hid (kl1B (sm row) x y = (tb && (t.low.toList == x.toList))) := by show _ = _; rw [htb, ht]; rfl
                clear ht htb
                have HMB2 : Hid (Sm (wr.alloc (.cells #[.int .i64 t.page, .int .i64 t.nd.lev, .int .i64 t.nd.lsn, .int .i64 t.nd.rgt, .string t.nd.high, .slice t.pt.k t.nd.keys.length t.pt.kc, .slice t.pt.v t.nd.vals.length t.pt.vc, .slice t.pt.i t.nd.kids.length t.pt.ic, .string t.low] 73)) w.heap.size m (sm row)) := HM.out.same (Fr.box _ _)
                have FE := FG.alloc (.cells #[.int .i64 t.page, .int .i64 t.nd.lev, .int .i64 t.nd.lsn, .int .i64 t.nd.rgt, .string t.nd.high, .slice t.pt.k t.nd.keys.length t.pt.kc, .slice t.pt.v t.nd.vals.length t.pt.vc, .slice t.pt.i t.nd.kids.length t.pt.ic, .string t.low] 73)
                have GE := G.alloc (.cells #[.int .i64 t.page, .int .i64 t.nd.lev, .int .i64 t.nd.lsn, .int .i64 t.nd.rgt, .string t.nd.high, .slice t.pt.k t.nd.keys.length t.pt.kc, .slice t.pt.v t.nd.vals.length t.pt.vc, .slice t.pt.i t.nd.kids.length t.pt.ic, .string t.low] 73)
                cases tb
                · have HR : Hid (belB row above = false) := by show _ = _; rw [HEV.out, ← HE.out, HNX.out, ← HEE.out, HY.out, HKB.out]; rfl
                  go_wp2
                  go_ret
                  exact ⟨ret_bool HR.out.symm, FE⟩
                · obtain ⟨b4, h4⟩ : ∃ b, b = (t.low.toList == x.toList) := ⟨_, rfl⟩
                  rw [← h4] at HKB
                  have e4 : (t.low.toList != x.toList) = !b4 := by rw [h4]; rfl
                  have e5 := h4.symm
                  clear h4
                  cases b4
                  · have HR : Hid (belB row above = false) := by show _ = _; rw [HEV.out, ← HE.out, HNX.out, ← HEE.out, HY.out, HKB.out]; rfl
                    go_wp2
                    go_ret
                    exact ⟨ret_bool HR.out.symm, FE⟩
                  · have HR : Hid (klB (sm row) low nd.keys ((j + 1) + 1) (nd.kids.drop ((j + 1) + 1)) = klB (sm row) low nd.keys 0 nd.kids) := by show _ = _; rw [← HEE.out, HY.out, HKB.out]; rfl
                    go_wp2
                    go_roundw
                    case rel => exact ⟨(j + 1) + 1, x, by omega, by go_num, rfl, (fun h => by omega), HR, HMB2, GE⟩
                    case measure => simp [intOf]; omega
            · have HR : Hid ((above.drop (i + 1)).all (fun s => klB (sm row) s.low s.nd.keys 0 s.nd.kids) = above.all (fun s => klB (sm row) s.low s.nd.keys 0 s.nd.kids)) := by
                show _ = _
                have e : nd.kids.drop j = [] := List.drop_of_length_le (by omega)
                rw [← HE.out, HNX.out, ← HEE.out, e]; rfl
              go_wp2
              go_roundw
              case rel => exact ⟨i + 1, by omega, by go_num, HR, HM, FG⟩
              case measure => simp [intOf]; omega
        · have HR : Hid (belB row above = true) := by
            show _ = _
            rw [HEV.out, ← HE.out, List.drop_of_length_le (by have := HN2.out; omega)]; rfl
          go_wp2
          go_ret
          exact ⟨ret_bool HR.out.symm, F⟩
end Go.Proofs.YtnckmajfmkkpgaaGreat
