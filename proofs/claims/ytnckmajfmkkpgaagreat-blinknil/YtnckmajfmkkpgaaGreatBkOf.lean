
/- New and Of. -/
import Derived.Test.YtnckmajfmkkpgaaGreatBkTree
import Derived.Test.YtnckmajfmkkpgaaGreatBkCopy
namespace Go.Proofs.YtnckmajfmkkpgaaGreat
open Go.RowKit

/-- A tree with its pages, which are its own. -/
structure TrS (w : World) (tb mb : Nat) (a : Option Addr) (n c : Nat) (lp : List Sl) (last : Int) : Prop where
  tr : Tr w tb a n c mb last
  len : n = lp.length
  sv : Sv w (.slice a n c) lp
  own : ∀ g, (Value.slice a n c).ownBlock = some g → g ≠ tb ∧ g ≠ mb
  off : ∀ s ∈ lp, Off (fun k => k = tb ∨ k = mb) s.nd s.pt
theorem TrS.same {w w' : World} {tb mb : Nat} {a : Option Addr} {n c : Nat} {lp : List Sl} {last : Int} (h : TrS w tb mb a n c lp last) (f : Fr (fun _ => False) w w') : TrS w' tb mb a n c lp last :=
  ⟨h.tr.fr f (fun f => f) (fun f => f), h.len, h.sv.same f, h.own, h.off⟩
theorem lv_right {ls : List Sl} (h : (leavesF ls).isSome = true) : ariB 0 (psOf ls) = true := by
  cases h1 : ariB 0 (psOf ls)
  · unfold leavesF at h
    rw [h1] at h
    simp at h
  · rfl
/-- The greatest LSN is that of the nodes. -/
theorem maxL_ps {l m : List Sl} (h : psOf l = psOf m) : maxL l = maxL m := by
  have key : ∀ l : List Sl, ∀ x : Int, l.foldl (fun m s => mx m s.nd.lsn) x = (psOf l).foldl (fun m p => mx m p.2.lsn) x := by
    intro l
    induction l with
    | nil => intro x; rfl
    | cons s l ih => intro x; simp only [List.foldl_cons, psOf, List.map_cons]; exact ih _
  unfold maxL
  rw [key, key, h]
/-- What Of tells. -/
def OfOut (ls : List Sl) (w : World) (e : Ending) (w' : World) : Prop := Fr (fun _ => False) w w' ∧ ((leavesF ls = none ∧ e = .returned (.tuple #[.pointer none, .int .i64 130])) ∨ ((leavesF ls).isSome = true ∧ ∃ tb mb a n c lp, e = .returned (.tuple #[.pointer (some ⟨tb, 0, none⟩), .int .i64 0]) ∧ psOf lp = psOf ls ∧ TrS w' tb mb a n c lp (maxL ls) ∧ w.heap.size ≤ tb ∧ w.heap.size ≤ mb ∧ ∀ g, (Value.slice a n c).ownBlock = some g → w.heap.size ≤ g))
set_option maxRecDepth 100000 in
set_option maxHeartbeats 2000000 in
theorem bof_any (a : Option Addr) (n c : Nat) (ls : List Sl) (hn : n = ls.length) (w : World) (h : Slots w a c ls) : Calls Tryz.prog 21 #[.slice a n c] w fun e w' => OfOut ls w e w' := by
  have hck := check_call a n c ls hn w h
  cases hl : (leavesF ls).isSome
  · have he : ckE ls = 130 := by unfold ckE; rw [hl]; rfl
    rw [he] at hck
    have HL : Hid (leavesF ls = none) := by show _ = _; simpa using hl
    clear hl he h hn
    go_enter Tryz.func21, Tryz.ntmps21
    go_wp2_with fail
    refine hck.mono ?_
    rintro e w1 ⟨rfl, f1⟩
    go_wp2
    go_ret2
    exact ⟨f1, .inl ⟨HL.out, rfl⟩⟩
  · have he : ckE ls = 0 := by unfold ckE; rw [hl]; rfl
    rw [he] at hck
    have hok := lv_right hl
    have hfew := (ari_psok hok).few
    rw [ps_length] at hfew
    have hri := (ari_ok 0 _ hok).2.2
    have hcp := fun W (f : Fr (fun _ => False) w W) => bcopied_any a n c ls hn (by omega) (fun s hs => rt_smal ((right_iff _).1 (hri (s.page, s.nd) (List.mem_map.2 ⟨s, hs, rfl⟩)))) W (h.same f)
    have HL : Hid ((leavesF ls).isSome = true) := hl
    clear hl he h hn hok hfew hri
    go_enter Tryz.func21, Tryz.ntmps21
    go_wp2_with fail
    refine hck.mono ?_
    rintro e w1 ⟨rfl, f1⟩
    go_wp2_with fail
    refine (hcp _ f1).mono ?_
    rintro e w2 ⟨b, cb, lp, rfl, hlp, hps, hsv, f2, hown⟩
    have hto := treeOf_any b n cb lp hlp w2 (hsv.slots hlp)
    have HLP : Hid (n = lp.length) := hlp
    have HPS : Hid (psOf lp = psOf ls) := hps
    have HMX : Hid (maxL lp = maxL ls) := maxL_ps hps
    have HSV : Hid (Sv w2 (.slice b n cb) lp) := hsv
    have HZ : Hid (∀ g, (Value.slice b n cb).ownBlock = some g → w.heap.size ≤ g ∧ g < w2.heap.size) := fun g e => ⟨by have := hown g e; have := f1.size; omega, hsv.has.lt e⟩
    clear hck hcp hlp hps hsv hown
    go_wp2_with fail
    refine hto.mono ?_
    rintro e w3 ⟨tb, mb, rfl, htr, htb, hmb, f3⟩
    have F3 := (f1.seq' f2).seq' f3
    have hz := (f1.seq' f2).size
    rw [HMX.out] at htr
    have HT : Hid (TrS w3 tb mb b n cb lp (maxL ls)) := ⟨htr, HLP.out, HSV.out.same f3, fun g e => by have := (HZ.out g e).2; omega, fun s hs => (HSV.out.nod s hs).far (fun k hk e => by omega)⟩
    have HB : Hid (w.heap.size ≤ tb ∧ w.heap.size ≤ mb) := ⟨by omega, by omega⟩
    clear hto htr htb hmb
    go_wp2
    go_ret2
    exact ⟨F3, .inr ⟨HL.out, tb, mb, b, n, cb, lp, rfl, HPS.out, HT.out, HB.out.1, HB.out.2, fun g e => (HZ.out g e).1⟩⟩
theorem has_slot (w : World) (s : Sl) (t : TypeId) : Has (w.alloc (.cells #[.int .i64 s.page, .int .i64 s.nd.lev, .int .i64 s.nd.lsn, .int .i64 s.nd.rgt, .string s.nd.high, .slice s.pt.k s.nd.keys.length s.pt.kc, .slice s.pt.v s.nd.vals.length s.pt.vc, .slice s.pt.i s.nd.kids.length s.pt.ic] t)) 8 (.slice (some ⟨w.heap.size, 0, none⟩) 1 1) 1 (slC s) := by
  have hb := heap_alloc_new w (.cells #[.int .i64 s.page, .int .i64 s.nd.lev, .int .i64 s.nd.lsn, .int .i64 s.nd.rgt, .string s.nd.high, .slice s.pt.k s.nd.keys.length s.pt.kc, .slice s.pt.v s.nd.vals.length s.pt.vc, .slice s.pt.i s.nd.kids.length s.pt.ic] t)
  exact ⟨rfl, .inr ⟨_, _, rfl, by simp, Nat.le_refl _, by unfold maxLen; omega, there_block hb (by simp), range_block hb (fun j v hv => by rw [Nat.zero_add]; simpa [slC] using hv)⟩⟩
set_option maxRecDepth 100000 in
set_option maxHeartbeats 2000000 in
theorem bnew_any (w : World) : Calls Tryz.prog 20 #[] w fun e w' => ∃ tb mb a c, e = .returned (.pointer (some ⟨tb, 0, none⟩)) ∧ TrS w' tb mb a 1 c [⟨1, zn, zp⟩] 0 ∧ w.heap.size ≤ tb ∧ w.heap.size ≤ mb ∧ (∀ g, (Value.slice a 1 c).ownBlock = some g → w.heap.size ≤ g) ∧ Fr (fun _ => False) w w' := by
  have f0 := Fr.box w (.cells #[.int .i64 (Sl.mk 1 zn zp).page, .int .i64 (Sl.mk 1 zn zp).nd.lev, .int .i64 (Sl.mk 1 zn zp).nd.lsn, .int .i64 (Sl.mk 1 zn zp).nd.rgt, .string (Sl.mk 1 zn zp).nd.high, .slice (Sl.mk 1 zn zp).pt.k (Sl.mk 1 zn zp).nd.keys.length (Sl.mk 1 zn zp).pt.kc, .slice (Sl.mk 1 zn zp).pt.v (Sl.mk 1 zn zp).nd.vals.length (Sl.mk 1 zn zp).pt.vc, .slice (Sl.mk 1 zn zp).pt.i (Sl.mk 1 zn zp).nd.kids.length (Sl.mk 1 zn zp).pt.ic] 62)
  have hh := has_slot w (Sl.mk 1 zn zp) 62
  have hsv : Sv (w.alloc (.cells #[.int .i64 (Sl.mk 1 zn zp).page, .int .i64 (Sl.mk 1 zn zp).nd.lev, .int .i64 (Sl.mk 1 zn zp).nd.lsn, .int .i64 (Sl.mk 1 zn zp).nd.rgt, .string (Sl.mk 1 zn zp).nd.high, .slice (Sl.mk 1 zn zp).pt.k (Sl.mk 1 zn zp).nd.keys.length (Sl.mk 1 zn zp).pt.kc, .slice (Sl.mk 1 zn zp).pt.v (Sl.mk 1 zn zp).nd.vals.length (Sl.mk 1 zn zp).pt.vc, .slice (Sl.mk 1 zn zp).pt.i (Sl.mk 1 zn zp).nd.kids.length (Sl.mk 1 zn zp).pt.ic] 62)) (.slice (some ⟨w.heap.size, 0, none⟩) 1 1) [Sl.mk 1 zn zp] := ⟨by simpa using hh, fun s hs => by obtain rfl := List.mem_singleton.1 hs; exact zn_nod _, fun s hs => by obtain rfl := List.mem_singleton.1 hs; exact ⟨.inl rfl, .inl rfl, .inl rfl⟩⟩
  have hto := treeOf_any (some ⟨w.heap.size, 0, none⟩) 1 1 [Sl.mk 1 zn zp] rfl _ (hsv.slots rfl)
  have hm : maxL [Sl.mk 1 zn zp] = 0 := by decide
  rw [hm] at hto
  have HSV : Hid (Sv (w.alloc (.cells #[.int .i64 (Sl.mk 1 zn zp).page, .int .i64 (Sl.mk 1 zn zp).nd.lev, .int .i64 (Sl.mk 1 zn zp).nd.lsn, .int .i64 (Sl.mk 1 zn zp).nd.rgt, .string (Sl.mk 1 zn zp).nd.high, .slice (Sl.mk 1 zn zp).pt.k (Sl.mk 1 zn zp).nd.keys.length (Sl.mk 1 zn zp).pt.kc, .slice (Sl.mk 1 zn zp).pt.v (Sl.mk 1 zn zp).nd.vals.length (Sl.mk 1 zn zp).pt.vc, .slice (Sl.mk 1 zn zp).pt.i (Sl.mk 1 zn zp).nd.kids.length (Sl.mk 1 zn zp).pt.ic] 62)) (.slice (some ⟨w.heap.size, 0, none⟩) 1 1) [Sl.mk 1 zn zp]) := hsv
  have HF0 : Hid (Fr (fun _ => False) w (w.alloc (.cells #[.int .i64 (Sl.mk 1 zn zp).page, .int .i64 (Sl.mk 1 zn zp).nd.lev, .int .i64 (Sl.mk 1 zn zp).nd.lsn, .int .i64 (Sl.mk 1 zn zp).nd.rgt, .string (Sl.mk 1 zn zp).nd.high, .slice (Sl.mk 1 zn zp).pt.k (Sl.mk 1 zn zp).nd.keys.length (Sl.mk 1 zn zp).pt.kc, .slice (Sl.mk 1 zn zp).pt.v (Sl.mk 1 zn zp).nd.vals.length (Sl.mk 1 zn zp).pt.vc, .slice (Sl.mk 1 zn zp).pt.i (Sl.mk 1 zn zp).nd.kids.length (Sl.mk 1 zn zp).pt.ic] 62))) := f0
  clear hh hsv hm f0
  go_enter Tryz.func20, Tryz.ntmps20
  go_wp2_with fail
  refine hto.mono ?_
  rintro e w3 ⟨tb, mb, rfl, htr, htb, hmb, f3⟩
  simp only [World.size_alloc] at htb hmb
  have HT : Hid (TrS w3 tb mb (some ⟨w.heap.size, 0, none⟩) 1 1 [Sl.mk 1 zn zp] 0) := ⟨htr, rfl, HSV.out.same f3, fun g e => by simp [Value.ownBlock] at e; omega, fun s hs => by obtain rfl := List.mem_singleton.1 hs; exact ⟨.inl rfl, .inl rfl, .inl rfl⟩⟩
  have HB : Hid (w.heap.size ≤ tb ∧ w.heap.size ≤ mb) := ⟨by omega, by omega⟩
  clear hto htr htb hmb
  go_wp2
  go_ret
  exact ⟨tb, mb, _, _, rfl, HT.out, HB.out.1, HB.out.2, fun g e => by simp [Value.ownBlock] at e; omega, HF0.out.seq' f3⟩
end Go.Proofs.YtnckmajfmkkpgaaGreat
