
/- FdOp, FdGiv, FdGiv2. -/
import Derived.Test.YthdbkanbgfajbaaGreatTB5
import Derived.Laws.StructEq
import Derived.Deep.QuietTactic
import Derived.BigQuiet
/- Operations, results, rows of entries; looksAt, isKind; slices.Values. -/
namespace Go.Proofs.YthdbkanbgfajbaaGreat
open Go.RowKit Go.Shelf

/-- An entry's cells. -/
def enC (e : En) : List Value := [.string e.1, .string e.2]
theorem enC_one (e : En) : ∀ u ∈ enC e, u.oneCell' = true := by
  intro u hu
  simp only [enC, List.mem_cons, List.not_mem_nil, or_false] at hu
  rcases hu with rfl | rfl <;> rfl
theorem enC_length (e : En) : (enC e).length = 2 := rfl
theorem infoEnt : (Tryz.prog.info? 107).map (fun i => (i.zero, i.size, i.bytes)) = some (some (.agg #[.string ⟨#[]⟩, .string ⟨#[]⟩]), 2, 32) := by kernel_rfl
/-- A row of entries, as a walk sees it. -/
structure Ens (w : World) (a : Option Addr) (cap : Nat) (L : List En) : Prop where
  le : L.length ≤ cap
  max : cap ≤ 9223372036854775807
  at_ : L = [] ∨ ∃ b off, a = some ⟨b, off, none⟩ ∧ b < w.heap.size ∧ ∀ i e, L[i]? = some e → w.rangeAt b (off + i * 2) (enC e)
theorem Ens.same {w w' : World} {a : Option Addr} {cap : Nat} {ls : List En} (h : Ens w a cap ls) (f : Fr (fun _ => False) w w') : Ens w' a cap ls := by
  refine ⟨h.le, h.max, ?_⟩
  rcases h.at_ with h0 | ⟨b, off, rfl, hb, hc⟩
  · exact .inl h0
  · exact .inr ⟨b, off, rfl, Nat.lt_of_lt_of_le hb f.size, fun i r hr => range_fr (hc i r hr) f (fun f => f)⟩
theorem Ens.fr {S : Nat → Prop} {w w' : World} {a : Option Addr} {cap : Nat} {ls : List En} (h : Ens w a cap ls) (f : Fr S w w') (hS : ∀ b off, a = some ⟨b, off, none⟩ → ¬ S b) : Ens w' a cap ls := by
  refine ⟨h.le, h.max, ?_⟩
  rcases h.at_ with h0 | ⟨b, off, rfl, hb, hc⟩
  · exact .inl h0
  · exact .inr ⟨b, off, rfl, Nat.lt_of_lt_of_le hb f.size, fun i r hr => range_fr (hc i r hr) f (hS b off rfl)⟩
theorem Ens.some {w : World} {a : Option Addr} {cap : Nat} {ls : List En} (h : Ens w a cap ls) (hn : 0 < ls.length) : ∃ b off, a = some ⟨b, off, none⟩ ∧ b < w.heap.size ∧ ∀ i r, ls[i]? = some r → w.cell? ⟨b, off + i * 2, none⟩ = some (.string r.1) ∧ w.cell? ⟨b, off + i * 2 + 1, none⟩ = some (.string r.2) := by
  rcases h.at_ with h0 | ⟨b, off, h1, h2, h3⟩
  · rw [h0] at hn; simp at hn
  · exact ⟨b, off, h1, h2, fun i r hr => ⟨h3 i r hr 0 _ rfl, h3 i r hr 1 _ rfl⟩⟩
theorem Ens.nil (w : World) : Ens w none 0 [] := ⟨Nat.le_refl _, by omega, .inl rfl⟩
theorem Ens.of {w : World} {v : Value} {L : List En} (h : Has w 2 v L.length (L.flatMap enC)) : ∃ a c, v = .slice a L.length c ∧ Ens w a c L := by
  obtain ⟨a, c, rfl, h1, h2⟩ := h.slice
  refine ⟨a, c, rfl, h1, by unfold maxLen at h2; omega, ?_⟩
  by_cases h0 : L.length = 0
  · exact .inl (List.eq_nil_of_length_eq_zero h0)
  · obtain ⟨g, cap, hv, hg, _⟩ := h.form (by omega)
    simp only [Value.slice.injEq, true_and] at hv
    obtain ⟨rfl, rfl⟩ := hv
    refine .inr ⟨g, 0, rfl, hg, fun i e he => ?_⟩
    have hr := h.elem enC_length he
    rw [Nat.zero_add]
    exact hr
/-- What a call leaves that answers a list of entries of its own. -/
def EnOut (w : World) (L : List En) (e : Ending) (w' : World) : Prop := ∃ a c, e = .returned (.slice a L.length c) ∧ Ens w' a c L ∧ (∀ b off, a = some ⟨b, off, none⟩ → w.heap.size ≤ b) ∧ Fr (fun _ => False) w w'
theorem own_at {a : Option Addr} {n c m : Nat} (h : ∀ g, (Value.slice a n c).ownBlock = some g → m ≤ g) : ∀ b off, a = some ⟨b, off, none⟩ → m ≤ b := fun b off e => h b (by rw [e]; rfl)

theorem beq_bytes (x y : ByteArray) : (x.toList == y.toList) = decide (x = y) := by
  rw [Bool.eq_iff_iff, beq_iff_eq, decide_eq_true_eq]
  constructor
  · intro h
    rw [Lib.toList_data, Lib.toList_data] at h
    have : x.data = y.data := Array.ext' h
    cases x; cases y; cases this; rfl
  · rintro rfl; rfl
/-- An operation. -/
structure Opn where
  kind : Int
  key : ByteArray
  val : ByteArray
/-- Which keys count. -/
def lookB (o : Opn) (k : ByteArray) : Bool := if o.kind = 4 then (!decide (cp k o.key < 0)) && (emp o.val || decide (cp k o.val < 0)) else decide (k = o.key)
set_option maxRecDepth 100000 in
set_option maxHeartbeats 2000000 in
theorem looksAt_any (o : Opn) (k : ByteArray) (h1 : k.size ≤ maxLen) (h2 : o.key.size ≤ maxLen) (h3 : o.val.size ≤ maxLen) (w : World) :
    Calls Tryz.prog 52 #[.agg #[.int .i64 o.kind, .string o.key, .string o.val], .string k] w fun e w' => e = .returned (.bool (lookB o k)) ∧ Fr (fun _ => False) w w' := by
  obtain ⟨kind, key, val⟩ := o
  dsimp only at h2 h3 ⊢
  unfold lookB
  dsimp only
  have F0 := Fr.box w (.cells #[.int .i64 kind, .string key, .string val] 30)
  have hB : ∀ W, Fr (fun _ => False) (w.alloc (.cells #[.int .i64 kind, .string key, .string val] 30)) W → W.cell? ⟨w.heap.size, 2, none⟩ = some (.string val) := fun W f => by
    have := f.blk (heap_alloc_new w (.cells #[.int .i64 kind, .string key, .string val] 30)) (fun f => f)
    simp [World.cell?, this]
  by_cases h4 : kind = 4
  · subst h4
    rw [if_pos rfl]
    have c1 := compare_any k key h1 h2
    have c2 := compare_any k val h1 h3
    have HE : Hid (emp val = val.toList.isEmpty) := rfl
    rw [HE.out]
    have hb1 : Hid (∀ x : Int, (!decide (x < 0)) = decide (0 ≤ x)) := fun x => by
      show _ = _
      rw [Bool.eq_iff_iff]; simp
    show Calls _ _ _ _ fun e w' => e = .returned (.bool ((!decide (cpl (bsOf k) (bsOf key) < 0)) && (val.toList.isEmpty || decide (cpl (bsOf k) (bsOf val) < 0)))) ∧ Fr (fun _ => False) w w'
    rw [hb1.out]
    generalize cpl (bsOf k) (bsOf key) = x at *
    generalize cpl (bsOf k) (bsOf val) = y at *
    clear h1 h2 h3 HE hb1
    by_cases hx : 0 ≤ x
    · cases hv : val.toList.isEmpty with
      | true =>
        go_enter Tryz.func52, Tryz.ntmps52
        go_wp2_with fail
        refine (c1 _).mono ?_
        rintro e w1 ⟨rfl, f1⟩
        have q2 := hB w1 f1
        clear c1 c2
        go_wp2
        go_ret
        exact ⟨ret_bool (by simp [hx]), F0.seq' f1⟩
      | false =>
        go_enter Tryz.func52, Tryz.ntmps52
        go_wp2_with fail
        refine (c1 _).mono ?_
        rintro e w1 ⟨rfl, f1⟩
        have q2 := hB w1 f1
        clear c1
        go_wp2_with fail
        refine (c2 _).mono ?_
        rintro e w2 ⟨rfl, f2⟩
        clear c2
        go_wp2
        go_ret
        exact ⟨ret_bool (by simp [hx]), (F0.seq' f1).seq' f2⟩
    · have hx' : decide (0 ≤ x) = false := by simpa using hx
      go_enter Tryz.func52, Tryz.ntmps52
      go_wp2_with fail
      refine (c1 _).mono ?_
      rintro e w1 ⟨rfl, f1⟩
      clear c1 c2
      go_wp2
      go_ret
      exact ⟨ret_bool (by simp [hx']), F0.seq' f1⟩
  · have h4' : (kind != 4) = true := by simpa using h4
    rw [if_neg h4]
    have hbq := beq_bytes k key
    rw [← hbq]
    clear hbq hB h4
    go_enter Tryz.func52, Tryz.ntmps52
    go_wp2
    go_ret
    exact ⟨rfl, F0⟩
def kindB (k : Int) : Bool := decide (1 ≤ k ∧ k ≤ 4)
set_option maxRecDepth 100000 in
set_option maxHeartbeats 2000000 in
theorem isKind_any (k : Int) (w : World) : Calls Tryz.prog 51 #[.int .i64 k] w fun e w' => e = .returned (.bool (kindB k)) ∧ w' = w := by
  go_enter Tryz.func51, Tryz.ntmps51
  go_wp2
  all_goals go_ret
  all_goals refine ⟨ret_bool ?_, rfl⟩
  all_goals unfold kindB
  all_goals simp_all
  all_goals omega
end Go.Proofs.YthdbkanbgfajbaaGreat

/- slices.Values of entries; what an operation gives of the entries of an iterator. -/
namespace Go.Proofs.YthdbkanbgfajbaaGreat
open Go.RowKit Go.Shelf
attribute [local go_sem] Oper.semAt_some

abbrev enE (s : En) : Array Value := #[.agg #[.string s.1, .string s.2]]
theorem rising_call (b : Nat) (w : World) : Calls Tryz.prog 65 #[.map (some b)] w fun e w' => e = .returned (.func (.func 80) #[] #[.pointer (some ⟨w.heap.size, 0, none⟩)]) ∧ w' = w.alloc (.cells #[.map (some b)] 91) := by
  go_enter Tryz.func65, Tryz.ntmps65
  go_wp2
  go_ret
  exact ⟨rfl, rfl⟩
end Go.Proofs.YthdbkanbgfajbaaGreat

/- What an operation gives of the entries of an iterator. -/
namespace Go.Proofs.YthdbkanbgfajbaaGreat
open Go.RowKit Go.Shelf
attribute [local go_sem] Oper.semAt_some

/-- A result. -/
structure Rs where
  found : Bool
  val : ByteArray
  ents : List En
/-- What an operation gives of a map. -/
def givF (o : Opn) (L : List En) : Rs :=
  if o.kind = 4 then ⟨false, ⟨#[]⟩, L.filter (fun e => lookB o e.1)⟩
  else match fnd L o.key with
    | none => ⟨false, ⟨#[]⟩, []⟩
    | some e => ⟨true, if o.kind = 1 then e.2 else ⟨#[]⟩, []⟩
theorem givF_scan {o : Opn} (h : o.kind = 4) (L : List En) : givF o L = ⟨false, ⟨#[]⟩, L.filter (fun e => lookB o e.1)⟩ := if_pos h
theorem givF_none {o : Opn} {L : List En} (h : o.kind ≠ 4) (hf : fnd L o.key = none) : givF o L = ⟨false, ⟨#[]⟩, []⟩ := by unfold givF; rw [if_neg h, hf]
theorem givF_some {o : Opn} {L : List En} {e : En} (h : o.kind ≠ 4) (hf : fnd L o.key = some e) : givF o L = ⟨true, if o.kind = 1 then e.2 else ⟨#[]⟩, []⟩ := by unfold givF; rw [if_neg h, hf]
def RsOut (w : World) (r : Rs) (e : Ending) (w' : World) : Prop := ∃ a c, e = .returned (.agg #[.bool r.found, .string r.val, .slice a r.ents.length c]) ∧ Ens w' a c r.ents ∧ (∀ b off, a = some ⟨b, off, none⟩ → w.heap.size ≤ b) ∧ Fr (fun _ => False) w w'
theorem three_cells {W : World} {b : Nat} {t : TypeId} {c0 c1 c2 : Value} (h : W.heap[b]? = some (.cells #[c0, c1, c2] t (0, 0))) : (W.cell? ⟨b, 0, none⟩ = some c0 ∧ W.cell? ⟨b, 1, none⟩ = some c1 ∧ W.cell? ⟨b, 2, none⟩ = some c2) ∧ W.frozen? ⟨b, 0, none⟩ = false ∧ W.frozen? ⟨b, 1, none⟩ = false ∧ W.frozen? ⟨b, 2, none⟩ = false := by
  refine ⟨⟨?_, ?_, ?_⟩, ?_, ?_, ?_⟩ <;> simp [World.cell?, World.frozen?, h]
theorem set_third {W : World} {B : Nat} {c0 c1 c2 : Value} {t : TypeId} (h : W.heap[B]? = some (.cells #[c0, c1, c2] t (0, 0))) (u : Value) : (W.setCell ⟨B, 2, none⟩ u).heap[B]? = some (.cells #[c0, c1, u] t (0, 0)) := by
  obtain ⟨hlt, he⟩ := Array.getElem?_eq_some_iff.1 h
  show (W.heap.modify B _)[B]? = _
  rw [Array.getElem?_eq_getElem (by rw [Array.size_modify]; exact hlt), Array.getElem_modify_self, he]
  rfl
theorem set_all {W : World} {B : Nat} {c0 c1 c2 : Value} {t : TypeId} (h : W.heap[B]? = some (.cells #[c0, c1, c2] t (0, 0))) (u0 u1 u2 : Value) : (((W.setCell ⟨B, 0, none⟩ u0).setCell ⟨B, 1, none⟩ u1).setCell ⟨B, 2, none⟩ u2).heap[B]? = some (.cells #[u0, u1, u2] t (0, 0)) := by
  obtain ⟨hlt, he⟩ := Array.getElem?_eq_some_iff.1 h
  have h1 : (W.setCell ⟨B, 0, none⟩ u0).heap[B]? = some (.cells #[u0, c1, c2] t (0, 0)) := by
    show (W.heap.modify B _)[B]? = _
    rw [Array.getElem?_eq_getElem (by rw [Array.size_modify]; exact hlt), Array.getElem_modify_self, he]
    rfl
  obtain ⟨hlt1, he1⟩ := Array.getElem?_eq_some_iff.1 h1
  have h2 : ((W.setCell ⟨B, 0, none⟩ u0).setCell ⟨B, 1, none⟩ u1).heap[B]? = some (.cells #[u0, u1, c2] t (0, 0)) := by
    show ((W.setCell ⟨B, 0, none⟩ u0).heap.modify B _)[B]? = _
    rw [Array.getElem?_eq_getElem (by rw [Array.size_modify]; exact hlt1), Array.getElem_modify_self, he1]
    rfl
  exact set_third h2 u2
/-- Between two rounds of a scan. -/
structure GvS (w : World) (o : Opn) (lo : Nat) (L pre : List En) (W : World) : Prop where
  pre_ : pre <+: L
  fr : Fr (fun _ => False) w W
  b0 : W.heap[w.heap.size]? = some (.cells #[.int .i64 o.kind, .string o.key, .string o.val] 30 (0, 0))
  b1 : W.heap[w.heap.size + 1]? = some (.cells #[.bool false, .string ⟨#[]⟩, .slice none 0 0] 47 (0, 0))
  b2 : ∃ v, W.heap[w.heap.size + 2]? = some (.cells #[.bool false, .string ⟨#[]⟩, v] 47 (0, 0)) ∧ Has W 2 v (pre.filter (fun e => lookB o e.1)).length ((pre.filter (fun e => lookB o e.1)).flatMap enC) ∧ (∀ g, v.ownBlock = some g → lo ≤ g)
theorem GvS.on {w : World} {o : Opn} {lo : Nat} {L pre : List En} {W W' : World} {S : Nat → Prop} (h : GvS w o lo L pre W) (f : Fr S W W') (h1 : ∀ k, k < w.heap.size + 3 → ¬ S k) (h2 : ∀ k, lo ≤ k → ¬ S k) : GvS w o lo L pre W' := by
  obtain ⟨v, hb, hh, ho⟩ := h.b2
  exact ⟨h.pre_, h.fr.trans f (fun i hi e => h1 i (by omega) e), f.blk h.b0 (h1 _ (by omega)), f.blk h.b1 (h1 _ (by omega)), v, f.blk hb (h1 _ (by omega)), hh.fr f (fun k hk => h2 k (ho k hk)), ho⟩
theorem three_new (w : World) (A B C : Obj) : ((w.alloc A).alloc B).alloc C = ((w.alloc A).alloc B).alloc C ∧ (((w.alloc A).alloc B).alloc C).heap[w.heap.size]? = some A ∧ (((w.alloc A).alloc B).alloc C).heap[w.heap.size + 1]? = some B ∧ (((w.alloc A).alloc B).alloc C).heap[w.heap.size + 2]? = some C := by
  refine ⟨rfl, ?_, ?_, ?_⟩
  · exact (((Fr.refl (fun _ => False) _).alloc _).alloc _).blk (heap_alloc_new w _) (fun f => f)
  · have h1 := heap_alloc_new (w.alloc A) B
    rw [show (w.alloc A).heap.size = w.heap.size + 1 by simp] at h1
    exact ((Fr.refl (fun _ => False) _).alloc _).blk h1 (fun f => f)
  · have h1 := heap_alloc_new ((w.alloc A).alloc B) C
    rwa [show ((w.alloc A).alloc B).heap.size = w.heap.size + 2 by simp] at h1
set_option maxRecDepth 100000 in
set_option maxHeartbeats 4000000 in
theorem given_scan (o : Opn) (hk4 : o.kind = 4) (hok : o.key.size ≤ maxLen) (hov : o.val.size ≤ maxLen) (gf : Nat) (lb : Array Value) (eg : ∀ args w, (callFunc gf args).run Tryz.prog w = .ok (.enter gf args) w) (R : Nat → Prop) (M : List En → En → World → Prop) (L : List En) (hL : L.length * 32 ≤ 140737488355328) (hsm : ∀ e ∈ L, e.1.size ≤ maxLen) (w0 w : World)
    (hM : ∀ pre x W, M pre x W → pre ++ [x] <+: L) (hit : Iter Tryz.prog gf lb enE R M (fun xs => xs = L) w0) (hw : Fr (fun k => ¬ R k) w0 w) (hR : ∀ k, R k → k < w.heap.size) :
    Calls Tryz.prog 64 #[.agg #[.int .i64 o.kind, .string o.key, .string o.val], .func (.func gf) #[] lb] w fun e w' => RsOut w (givF o L) e w' := by
  rw [givF_scan hk4]
  obtain ⟨i0, ji, jz0, jz1, jz2⟩ := info_parts infoEnt
  have HLK : Hid (∀ k, k.size ≤ maxLen → ∀ W, Calls Tryz.prog 52 #[.agg #[.int .i64 o.kind, .string o.key, .string o.val], .string k] W fun e w' => e = .returned (.bool (lookB o k)) ∧ Fr (fun _ => False) W w') := fun k hk W => looksAt_any o k hk hok hov W
  have HSM : Hid (∀ e ∈ L, e.1.size ≤ maxLen) := hsm
  have HLL : Hid (L.length * 32 ≤ 140737488355328) := hL
  have f0 : Fr (fun _ => False) w (((w.alloc (.cells #[.int .i64 o.kind, .string o.key, .string o.val] 30)).alloc (.cells #[.bool false, .string ⟨#[]⟩, .slice none 0 0] 47)).alloc (.cells #[.bool false, .string ⟨#[]⟩, .slice none 0 0] 47)) := (((Fr.refl _ _).alloc _).alloc _).alloc _
  obtain ⟨_, hB0, hB1, hB2⟩ := three_new w (.cells #[.int .i64 o.kind, .string o.key, .string o.val] 30) (.cells #[.bool false, .string ⟨#[]⟩, .slice none 0 0] 47) (.cells #[.bool false, .string ⟨#[]⟩, .slice none 0 0] 47)
  have hsz : (((w.alloc (.cells #[.int .i64 o.kind, .string o.key, .string o.val] 30)).alloc (.cells #[.bool false, .string ⟨#[]⟩, .slice none 0 0] 47)).alloc (.cells #[.bool false, .string ⟨#[]⟩, .slice none 0 0] 47)).heap.size = w.heap.size + 3 := by simp
  obtain ⟨kind, key, val⟩ := o
  dsimp only at hk4
  subst hk4
  dsimp only at *
  clear hsm hL hok hov
  refine (callsIn_wide (n := 0)).1 ?_
  refine callsIn_of_wp_marks Tryz.func64 rfl trivial ?_ rfl
  simp only [Tryz.ntmps64, List.size_toArray, List.length_cons, List.length_nil, Nat.reduceAdd, Nat.reduceSub, Array.replicate_succ, Array.replicate_zero, List.push_toArray, List.append_toArray, List.nil_append, List.cons_append]
  gi_wp2
  generalize ((w.alloc (.cells #[.int .i64 4, .string key, .string val] 30)).alloc (.cells #[.bool false, .string ⟨#[]⟩, .slice none 0 0] 47)).alloc (.cells #[.bool false, .string ⟨#[]⟩, .slice none 0 0] 47) = V at *
  refine over (gf := gf) (lb := lb) rfl eg hit (hw.trans f0 (fun _ _ f => f.elim)) (fun _ => rfl)
    (fun W k => k = w.heap.size + 2 ∨ ∃ v, W.cell? ⟨w.heap.size + 2, 2, none⟩ = some v ∧ v.ownBlock = some k) (GvS w ⟨4, key, val⟩ (w.heap.size + 5) L) (fun _ _ _ => False) ?st (fun _ _ _ _ h _ => h) ?ol ?bk ?ap ?h0 ?round ?done (fun _ _ _ h => h.elim)
  case st => intro pre A B hI f; exact hI.on f (fun k hk e => by omega) (fun k hk e => by omega)
  case ol =>
    rintro pre A k hI (rfl | ⟨u, hu, ho⟩)
    · obtain ⟨v, hb, _⟩ := hI.b2; exact lt_of_block hb
    · obtain ⟨v, hb, hh, _⟩ := hI.b2
      rw [(three_cells hb).1.2.2] at hu
      cases hu
      exact hh.lt ho
  case bk =>
    rintro pre A B k hI fn (rfl | ⟨u, hu, ho⟩)
    · exact .inl rfl
    · obtain ⟨v, hb, hh, _⟩ := hI.b2
      rw [(three_cells (fn.blk hb (by omega))).1.2.2] at hu
      cases hu
      exact .inr ⟨_, (three_cells hb).1.2.2, ho⟩
  case ap =>
    rintro pre A k hI (rfl | ⟨u, hu, ho⟩)
    · exact ⟨fun h => by have := hR _ h; omega, by omega, by omega⟩
    · obtain ⟨v, hb, hh, hown⟩ := hI.b2
      rw [(three_cells hb).1.2.2] at hu
      cases hu
      have := hown k ho
      exact ⟨fun h => by have := hR _ h; omega, by omega, by omega⟩
  case h0 => exact ⟨List.nil_prefix, f0, hB0, hB1, .slice none 0 0, hB2, Has.nil _ _, (fun g e => by cases e)⟩
  case round =>
    rintro pre ⟨x, y⟩ W hI hm hz _
    have hpx := hM _ _ _ hm
    clear hm
    dsimp only
    gi_wp2
    refine ⟨Fr.box W _, fun W2 f2 => ?_⟩
    have hbx := f2.blk (heap_alloc_new W (.cells #[.string x, .string y] 107)) (by omega)
    have FW : Fr (fun q => q = V.heap.size + 1) W W2 := ((Fr.box W (.cells #[.string x, .string y] 107)).widen (fun _ f => f.elim)).trans f2 (fun _ _ e => e)
    have hI2 := hI.on FW (fun k hk e => by omega) (fun k hk e => by omega)
    have hzz := FW.size
    have hxs : x.size ≤ maxLen := HSM.out (x, y) (hpx.subset (by simp))
    have HPX : Hid (pre ++ [(x, y)] <+: L) := hpx
    have HI2 : Hid (GvS w ⟨4, key, val⟩ (w.heap.size + 5) L pre W2) := hI2
    obtain ⟨⟨d0, d1, d2⟩, _⟩ := three_cells hI2.b0
    obtain ⟨e0, e1⟩ := two_cells hbx
    have HBX : Hid (W2.heap[W.heap.size]? = some (.cells #[.string x, .string y] 107 (0, 0))) := hbx
    clear hI hI2 hpx f2
    gi_wp2
    refine ⟨trivial, rfl, (CallsIn.inRound _ (callsIn_wide.2 (HLK.out x hxs _))).mono ?_⟩
    rintro e w3 ⟨rfl, f3⟩
    have HI3 : Hid (GvS w ⟨4, key, val⟩ (w.heap.size + 5) L pre w3) := HI2.out.on f3 (fun _ _ f => f) (fun _ _ f => f)
    have hz3 := f3.size
    cases hlk : lookB ⟨4, key, val⟩ x with
    | false =>
      have HFL : Hid ((pre ++ [(x, y)]).filter (fun e => lookB ⟨4, key, val⟩ e.1) = pre.filter (fun e => lookB ⟨4, key, val⟩ e.1)) := by show _ = _; rw [List.filter_append]; simp [hlk]
      have F3 : Fr (fun k => k = w.heap.size + 2 ∨ ∃ v, W2.cell? ⟨w.heap.size + 2, 2, none⟩ = some v ∧ v.ownBlock = some k) W2 w3 := f3.widen (fun _ f => f.elim)
      obtain ⟨v2, hb2, hh2, ho2⟩ := HI2.out.b2
      have HTT : Hid (∀ k, (k = w.heap.size + 2 ∨ ∃ v, w3.cell? ⟨w.heap.size + 2, 2, none⟩ = some v ∧ v.ownBlock = some k) → (k = w.heap.size + 2 ∨ ∃ v, W2.cell? ⟨w.heap.size + 2, 2, none⟩ = some v ∧ v.ownBlock = some k) ∨ W2.heap.size ≤ k) := fun k hk => by
        rcases hk with h | ⟨v, h, h'⟩
        · exact .inl (.inl h)
        · refine .inl (.inr ⟨v, ?_, h'⟩)
          rw [← f3.cell (p := ⟨w.heap.size + 2, 2, none⟩) (lt_of_block hb2) (fun f => f)]; exact h
      have hN : GvS w ⟨4, key, val⟩ (w.heap.size + 5) L (pre ++ [(x, y)]) w3 := by
        obtain ⟨a1, a2, a3, a4, v, hb, hh, hw⟩ := HI3.out
        exact ⟨HPX.out, a2, a3, a4, v, hb, by rw [HFL.out]; exact hh, hw⟩
      have HNN : Hid (GvS w ⟨4, key, val⟩ (w.heap.size + 5) L (pre ++ [(x, y)]) w3) := hN
      have HF3 : Hid (Fr (fun k => k = w.heap.size + 2 ∨ ∃ v, W2.cell? ⟨w.heap.size + 2, 2, none⟩ = some v ∧ v.ownBlock = some k) W2 w3) := F3
      clear hN F3 hb2 hh2 ho2 hlk
      gi_wp2
      exact ⟨HF3.out, HTT.out, HNN.out⟩
    | true =>
      have HFL : Hid ((pre ++ [(x, y)]).filter (fun e => lookB ⟨4, key, val⟩ e.1) = pre.filter (fun e => lookB ⟨4, key, val⟩ e.1) ++ [(x, y)]) := by show _ = _; rw [List.filter_append]; simp [hlk]
      obtain ⟨⟨d0', d1', d2'⟩, _⟩ := three_cells HI3.out.b0
      obtain ⟨v, hb3, hh3, ho3⟩ := HI3.out.b2
      obtain ⟨⟨c0, c1, c2⟩, _, _, cz⟩ := three_cells hb3
      have hbx3 := f3.blk HBX.out (fun f => f)
      obtain ⟨e0', e1'⟩ := two_cells hbx3
      obtain ⟨n', hn'⟩ : ∃ n', n' = (pre.filter (fun e => lookB ⟨4, key, val⟩ e.1)).length := ⟨_, rfl⟩
      have hnl : (n' + 1) * 32 ≤ 140737488355328 := by
        have h1 := List.length_filter_le (fun e : En => lookB ⟨4, key, val⟩ e.1) pre
        have h2 := HPX.out.length_le
        have h3 := HLL.out
        simp at h2
        omega
      rw [← hn'] at hh3
      obtain ⟨av, cv, hvv, _, _⟩ := hh3.slice
      subst hvv
      have fb := Fr.box w3 (.cells #[.string x, .string y] 107)
      have HH3 : Hid (Has (w3.alloc (.cells #[.string x, .string y] 107)) 2 (.slice av n' cv) n' ((pre.filter (fun e => lookB ⟨4, key, val⟩ e.1)).flatMap enC)) := hh3.fr fb (fun _ _ f => f)
      have HFR : Hid (From (w3.alloc (.cells #[.string x, .string y] 107)) (some ⟨w3.heap.size, 0, none⟩) (enC (x, y))) := .inr ⟨_, _, rfl, range_block (heap_alloc_new w3 (.cells #[.string x, .string y] 107)) (xs := enC (x, y)) (o := 0) (fun j u hu => by rw [Nat.zero_add]; simpa [enC] using hu)⟩
      have HB3 : Hid ((w3.alloc (.cells #[.string x, .string y] 107)).heap[w.heap.size + 2]? = some (.cells #[.bool false, .string ⟨#[]⟩, .slice av n' cv] 47 (0, 0))) := fb.blk hb3 (fun f => f)
      have HO3 : Hid (∀ g, (Value.slice av n' cv).ownBlock = some g → w.heap.size + 5 ≤ g) := ho3
      have HC2 : Hid (W2.cell? ⟨w.heap.size + 2, 2, none⟩ = some (.slice av n' cv)) := by
        show _ = _
        obtain ⟨v2, hb2, _⟩ := HI2.out.b2
        rw [← f3.cell (p := ⟨w.heap.size + 2, 2, none⟩) (lt_of_block hb2) (fun f => f)]; exact c2
      have HF3 : Hid (Fr (fun _ => False) W2 (w3.alloc (.cells #[.string x, .string y] 107))) := f3.seq' fb
      have HNN : Hid (n' = (pre.filter (fun e => lookB ⟨4, key, val⟩ e.1)).length) := hn'
      clear hn' hh3 hb3 ho3 hbx3 fb f3 hlk d0 d1 d2 e0 e1 HBX
      gi_wp2_with (gi_at_builtin; refine Hid.out (?_ : Hid _))
      unfold Hid
      refine wpListIn_append_has _ rfl (.tmp 20) (.tmp 22) 45 45 107 107 rfl i0 _ 2 32 Tryz.underlying45 Tryz.underlying45 ji jz0 jz1 jz2 rfl (by omega) (.slice av n' cv) n' ((pre.filter (fun e => lookB ⟨4, key, val⟩ e.1)).flatMap enC) rfl HH3.out (some ⟨w3.heap.size, 0, none⟩) 1 1 (enC (x, y)) rfl rfl HFR.out (enC_one _) (by unfold maxLen; omega) (by omega) ?_
      intro a4 c4 w8 ht4 f4 hat4
      have hb8 : w8.heap[w.heap.size + 2]? = some (.cells #[.bool false, .string ⟨#[]⟩, .slice av n' cv] 47 (0, 0)) := f4.blk HB3.out (fun e => by have := HO3.out _ e.1; omega)
      obtain ⟨⟨g0, g1, g2⟩, _, _, gz⟩ := three_cells hb8
      have HO4 : Hid (∀ g, (Value.slice a4 (n' + 1) c4).ownBlock = some g → w.heap.size + 5 ≤ g) := fun g e => by
        rcases hat4 with h1 | h1
        · rw [h1] at e; exact HO3.out g e
        · rw [h1] at e; simp at e; omega
      have fs : Fr (fun k => k = w.heap.size + 2) w8 (w8.setCell ⟨w.heap.size + 2, 2, none⟩ (.slice a4 (n' + 1) c4)) := (Fr.refl (fun k => k = w.heap.size + 2) w8).setCell (p := ⟨w.heap.size + 2, 2, none⟩) (fun _ => rfl) _
      have FB : Fr (fun k => k = w.heap.size + 2 ∨ (Value.slice av n' cv).ownBlock = some k) W2 (w8.setCell ⟨w.heap.size + 2, 2, none⟩ (.slice a4 (n' + 1) c4)) := (((HF3.out.widen (T := fun k => k = w.heap.size + 2 ∨ (Value.slice av n' cv).ownBlock = some k) (fun _ f => f.elim)).trans f4 (fun i _ e => .inr e.1)).trans fs (fun i _ e => .inl e))
      have HFB : Hid (Fr (fun k => k = w.heap.size + 2 ∨ (Value.slice av n' cv).ownBlock = some k) W2 (w8.setCell ⟨w.heap.size + 2, 2, none⟩ (.slice a4 (n' + 1) c4))) := FB
      have HS8 : Hid ((w8.setCell ⟨w.heap.size + 2, 2, none⟩ (.slice a4 (n' + 1) c4)).heap[w.heap.size + 2]? = some (.cells #[.bool false, .string ⟨#[]⟩, .slice a4 (n' + 1) c4] 47 (0, 0))) := set_third hb8 _
      have HT8 : Hid (Has (w8.setCell ⟨w.heap.size + 2, 2, none⟩ (.slice a4 (n' + 1) c4)) 2 (.slice a4 (n' + 1) c4) (n' + 1) ((pre.filter (fun e => lookB ⟨4, key, val⟩ e.1)).flatMap enC ++ enC (x, y))) := ht4.fr fs (fun k hk e => by have := HO4.out k hk; omega)
      have HAT : Hid ((Value.slice a4 (n' + 1) c4).ownBlock = (Value.slice av n' cv).ownBlock ∨ ∃ g, (Value.slice a4 (n' + 1) c4).ownBlock = some g ∧ W2.heap.size ≤ g) := by
        show _ ∨ _
        rcases hat4 with h | h
        · exact .inl h
        · exact .inr ⟨_, h, by simp; omega⟩
      clear FB fs ht4 hat4 f4 hb8
      gi_wp2
      refine ⟨?_, ?_, HPX.out, ?_, ?_, ?_, .slice a4 (n' + 1) c4, HS8.out, ?_, HO4.out⟩
      · exact HFB.out.mono (fun i hi e => by
          rcases e with e | e
          · exact .inl e
          · exact .inr ⟨_, HC2.out, e⟩)
      · rintro k (e | ⟨u, hu, ho⟩)
        · exact .inl (.inl e)
        · rw [(three_cells HS8.out).1.2.2] at hu
          cases hu
          rcases HAT.out with e | ⟨g, e, hg⟩
          · rw [e] at ho; exact .inl (.inr ⟨_, HC2.out, ho⟩)
          · rw [e] at ho; simp at ho; exact .inr (by omega)
      · exact HI2.out.fr.trans HFB.out (fun i hi e => by
          rcases e with e | e
          · omega
          · have := HO3.out _ e; omega)
      · exact HFB.out.blk HI2.out.b0 (fun e => by
          rcases e with e | e
          · omega
          · have := HO3.out _ e; omega)
      · exact HFB.out.blk HI2.out.b1 (fun e => by
          rcases e with e | e
          · omega
          · have := HO3.out _ e; omega)
      · rw [HFL.out, List.length_append, List.flatMap_append, ← HNN.out]
        simpa using HT8.out
  case done =>
    rintro xs W rfl hI hK
    obtain ⟨v, hb, hh, ho⟩ := hI.b2
    obtain ⟨⟨c0, c1, c2⟩, _⟩ := three_cells hb
    obtain ⟨⟨d0, d1, d2⟩, z0, z1, z2⟩ := three_cells hI.b1
    obtain ⟨av, cv, rfl, he⟩ := Ens.of hh
    have fs : Fr (fun q => q = w.heap.size + 1) W (((W.setCell ⟨w.heap.size + 1, 0, none⟩ (.bool false)).setCell ⟨w.heap.size + 1, 1, none⟩ (.string ⟨#[]⟩)).setCell ⟨w.heap.size + 1, 2, none⟩ (.slice av (xs.filter (fun e => lookB ⟨4, key, val⟩ e.1)).length cv)) := (((Fr.refl (fun q => q = w.heap.size + 1) W).setCell (p := ⟨w.heap.size + 1, 0, none⟩) (fun _ => rfl) _).setCell (p := ⟨w.heap.size + 1, 1, none⟩) (fun _ => rfl) _).setCell (p := ⟨w.heap.size + 1, 2, none⟩) (fun _ => rfl) _
    have hb1 := set_all hI.b1 (.bool false) (.string ⟨#[]⟩) (.slice av (xs.filter (fun e => lookB ⟨4, key, val⟩ e.1)).length cv)
    have hK2 := fs.blk hK (by omega)
    have fp := Fr.put (((W.setCell ⟨w.heap.size + 1, 0, none⟩ (.bool false)).setCell ⟨w.heap.size + 1, 1, none⟩ (.string ⟨#[]⟩)).setCell ⟨w.heap.size + 1, 2, none⟩ (.slice av (xs.filter (fun e => lookB ⟨4, key, val⟩ e.1)).length cv)) V.heap.size (.deferred none)
    have fE := (hI.fr.trans fs (S := fun _ => False) (fun i hi e => by omega)).trans fp (S := fun _ => False) (fun i hi e => by omega)
    have hb1' := fp.blk hb1 (by omega)
    obtain ⟨⟨g0, g1, g2⟩, _⟩ := three_cells hb1'
    have hown : ∀ b off, av = some ⟨b, off, none⟩ → w.heap.size + 5 ≤ b := own_at ho
    have he' := (he.fr fs (fun b off e => by have := hown b off e; omega)).fr fp (fun b off e => by have := hown b off e; omega)
    have HOUT : Hid (Ens ((((W.setCell ⟨w.heap.size + 1, 0, none⟩ (.bool false)).setCell ⟨w.heap.size + 1, 1, none⟩ (.string ⟨#[]⟩)).setCell ⟨w.heap.size + 1, 2, none⟩ (.slice av (xs.filter (fun e => lookB ⟨4, key, val⟩ e.1)).length cv)).putObj V.heap.size (.deferred none)) av cv (xs.filter (fun e => lookB ⟨4, key, val⟩ e.1)) ∧ (∀ b off, av = some ⟨b, off, none⟩ → w.heap.size ≤ b) ∧ Fr (fun _ => False) w ((((W.setCell ⟨w.heap.size + 1, 0, none⟩ (.bool false)).setCell ⟨w.heap.size + 1, 1, none⟩ (.string ⟨#[]⟩)).setCell ⟨w.heap.size + 1, 2, none⟩ (.slice av (xs.filter (fun e => lookB ⟨4, key, val⟩ e.1)).length cv)).putObj V.heap.size (.deferred none))) := ⟨he', fun b off e => by have := hown b off e; omega, fE⟩
    clear he he' fE fp fs hown hh ho hb1 hb1' hI hsz
    obtain ⟨ys, hys⟩ : ∃ ys, ys = xs.filter (fun e => lookB ⟨4, key, val⟩ e.1) := ⟨_, rfl⟩
    rw [← hys] at HOUT c2 g2 hK2 hb g0 g1
    have HYS : Hid (ys = xs.filter (fun e => lookB ⟨4, key, val⟩ e.1)) := hys
    clear hys
    gi_wp2
    refine ⟨by simp, .inl ⟨_, _, rfl, run_takeDeferred hK2, ?_⟩⟩
    generalize (((W.setCell ⟨w.heap.size + 1, 0, none⟩ (.bool false)).setCell ⟨w.heap.size + 1, 1, none⟩ (.string ⟨#[]⟩)).setCell ⟨w.heap.size + 1, 2, none⟩ (.slice av ys.length cv)).putObj V.heap.size (.deferred none) = Wf at *
    exact ⟨.agg #[.bool false, .string ⟨#[]⟩, .slice av ys.length cv], by simp [results, Tryz.results64, go_sem, g0, g1, g2], av, cv, by rw [← HYS.out], by rw [← HYS.out]; exact HOUT.out.1, HOUT.out.2⟩
end Go.Proofs.YthdbkanbgfajbaaGreat
