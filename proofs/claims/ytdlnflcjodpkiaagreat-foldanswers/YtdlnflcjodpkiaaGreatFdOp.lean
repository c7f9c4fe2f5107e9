
/- Operations, results, rows of entries; looksAt, isKind; slices.Values. -/
import Derived.Test.YtdlnflcjodpkiaaGreatFdCmp
import Derived.Laws.StructEq
import Derived.Deep.QuietTactic
import Derived.BigQuiet
namespace Go.Proofs.YtdlnflcjodpkiaaGreat
open Go.RowKit Go.Shelf

/-- An entry's cells. -/
def enC (e : En) : List Value := [.string e.1, .string e.2]
theorem enC_one (e : En) : ∀ u ∈ enC e, u.oneCell' = true := by
  intro u hu
  simp only [enC, List.mem_cons, List.not_mem_nil, or_false] at hu
  rcases hu with rfl | rfl <;> rfl
theorem enC_length (e : En) : (enC e).length = 2 := rfl
theorem infoEnt : (Tryz.prog.info? 77).map (fun i => (i.zero, i.size, i.bytes)) = some (some (.agg #[.string ⟨#[]⟩, .string ⟨#[]⟩]), 2, 32) := by kernel_rfl
/-- A row of entries, as a walk sees it. -/
structure Ens (w : World) (a : Option Addr) (cap : Nat) (L : List En) : Prop where
  le : L.length ≤ cap
  max : cap ≤ 9223372036854775807
  at_ : L = [] ∨ ∃ b off, a = some ⟨b, off, none⟩ ∧ b < w.heap.size ∧ ∀ i e, L[i]? = some e → w.rangeAt b (off + i * 2) (enC e)
theorem Ens.same {w w' : World} {a : Option Addr} {cap : Nat} {ls : List En} (h : Ens w a cap ls) (f : Fr (fun _ => False) w w') : Ens w' a cap ls := by
  refine ⟨h.le, h.max, ?_⟩
  rcases h.at_ with h0 | ⟨b, off, rfl, hb, hc⟩
  · exact .inl h0
  · exact .inr ⟨b, off, rfl, Nat.lt_of_lt_of_le hb f.size, fun i r hr => range_fr (hc i r hr) f (fun f => f)⟩
theorem Ens.fr {S : Nat → Prop} {w w' : World} {a : Option Addr} {cap : Nat} {ls : List En} (h : Ens w a cap ls) (f : Fr S w w') (hS : ∀ b off, a = some ⟨b, off, none⟩ → ¬ S b) : Ens w' a cap ls := by
  refine ⟨h.le, h.max, ?_⟩
  rcases h.at_ with h0 | ⟨b, off, rfl, hb, hc⟩
  · exact .inl h0
  · exact .inr ⟨b, off, rfl, Nat.lt_of_lt_of_le hb f.size, fun i r hr => range_fr (hc i r hr) f (hS b off rfl)⟩
theorem Ens.some {w : World} {a : Option Addr} {cap : Nat} {ls : List En} (h : Ens w a cap ls) (hn : 0 < ls.length) : ∃ b off, a = some ⟨b, off, none⟩ ∧ b < w.heap.size ∧ ∀ i r, ls[i]? = some r → w.cell? ⟨b, off + i * 2, none⟩ = some (.string r.1) ∧ w.cell? ⟨b, off + i * 2 + 1, none⟩ = some (.string r.2) := by
  rcases h.at_ with h0 | ⟨b, off, h1, h2, h3⟩
  · rw [h0] at hn; simp at hn
  · exact ⟨b, off, h1, h2, fun i r hr => ⟨h3 i r hr 0 _ rfl, h3 i r hr 1 _ rfl⟩⟩
theorem Ens.nil (w : World) : Ens w none 0 [] := ⟨Nat.le_refl _, by omega, .inl rfl⟩
theorem Ens.of {w : World} {v : Value} {L : List En} (h : Has w 2 v L.length (L.flatMap enC)) : ∃ a c, v = .slice a L.length c ∧ Ens w a c L := by
  obtain ⟨a, c, rfl, h1, h2⟩ := h.slice
  refine ⟨a, c, rfl, h1, by unfold maxLen at h2; omega, ?_⟩
  by_cases h0 : L.length = 0
  · exact .inl (List.eq_nil_of_length_eq_zero h0)
  · obtain ⟨g, cap, hv, hg, _⟩ := h.form (by omega)
    simp only [Value.slice.injEq, true_and] at hv
    obtain ⟨rfl, rfl⟩ := hv
    refine .inr ⟨g, 0, rfl, hg, fun i e he => ?_⟩
    have hr := h.elem enC_length he
    rw [Nat.zero_add]
    exact hr
/-- What a call leaves that answers a list of entries of its own. -/
def EnOut (w : World) (L : List En) (e : Ending) (w' : World) : Prop := ∃ a c, e = .returned (.slice a L.length c) ∧ Ens w' a c L ∧ (∀ b off, a = some ⟨b, off, none⟩ → w.heap.size ≤ b) ∧ Fr (fun _ => False) w w'
theorem own_at {a : Option Addr} {n c m : Nat} (h : ∀ g, (Value.slice a n c).ownBlock = some g → m ≤ g) : ∀ b off, a = some ⟨b, off, none⟩ → m ≤ b := fun b off e => h b (by rw [e]; rfl)

theorem beq_bytes (x y : ByteArray) : (x.toList == y.toList) = decide (x = y) := by
  rw [Bool.eq_iff_iff, beq_iff_eq, decide_eq_true_eq]
  constructor
  · intro h
    rw [Lib.toList_data, Lib.toList_data] at h
    have : x.data = y.data := Array.ext' h
    cases x; cases y; cases this; rfl
  · rintro rfl; rfl
/-- An operation. -/
structure Opn where
  kind : Int
  key : ByteArray
  val : ByteArray
/-- Which keys count. -/
def lookB (o : Opn) (k : ByteArray) : Bool := if o.kind = 4 then (!decide (cp k o.key < 0)) && (emp o.val || decide (cp k o.val < 0)) else decide (k = o.key)
set_option maxRecDepth 100000 in
set_option maxHeartbeats 2000000 in
theorem looksAt_any (o : Opn) (k : ByteArray) (h1 : k.size ≤ maxLen) (h2 : o.key.size ≤ maxLen) (h3 : o.val.size ≤ maxLen) (w : World) :
    Calls Tryz.prog 60 #[.agg #[.int .i64 o.kind, .string o.key, .string o.val], .string k] w fun e w' => e = .returned (.bool (lookB o k)) ∧ Fr (fun _ => False) w w' := by
  obtain ⟨kind, key, val⟩ := o
  dsimp only at h2 h3 ⊢
  unfold lookB
  dsimp only
  have F0 := Fr.box w (.cells #[.int .i64 kind, .string key, .string val] 35)
  have hB : ∀ W, Fr (fun _ => False) (w.alloc (.cells #[.int .i64 kind, .string key, .string val] 35)) W → W.cell? ⟨w.heap.size, 2, none⟩ = some (.string val) := fun W f => by
    have := f.blk (heap_alloc_new w (.cells #[.int .i64 kind, .string key, .string val] 35)) (fun f => f)
    simp [World.cell?, this]
  by_cases h4 : kind = 4
  · subst h4
    rw [if_pos rfl]
    have c1 := compare_any k key h1 h2
    have c2 := compare_any k val h1 h3
    have HE : Hid (emp val = val.toList.isEmpty) := rfl
    rw [HE.out]
    have hb1 : Hid (∀ x : Int, (!decide (x < 0)) = decide (0 ≤ x)) := fun x => by
      show _ = _
      rw [Bool.eq_iff_iff]; simp
    show Calls _ _ _ _ fun e w' => e = .returned (.bool ((!decide (cpl (bsOf k) (bsOf key) < 0)) && (val.toList.isEmpty || decide (cpl (bsOf k) (bsOf val) < 0)))) ∧ Fr (fun _ => False) w w'
    rw [hb1.out]
    generalize cpl (bsOf k) (bsOf key) = x at *
    generalize cpl (bsOf k) (bsOf val) = y at *
    clear h1 h2 h3 HE hb1
    by_cases hx : 0 ≤ x
    · cases hv : val.toList.isEmpty with
      | true =>
        go_enter Tryz.func60, Tryz.ntmps60
        go_wp2_with fail
        refine (c1 _).mono ?_
        rintro e w1 ⟨rfl, f1⟩
        have q2 := hB w1 f1
        clear c1 c2
        go_wp2
        go_ret
        exact ⟨ret_bool (by simp [hx]), F0.seq' f1⟩
      | false =>
        go_enter Tryz.func60, Tryz.ntmps60
        go_wp2_with fail
        refine (c1 _).mono ?_
        rintro e w1 ⟨rfl, f1⟩
        have q2 := hB w1 f1
        clear c1
        go_wp2_with fail
        refine (c2 _).mono ?_
        rintro e w2 ⟨rfl, f2⟩
        clear c2
        go_wp2
        go_ret
        exact ⟨ret_bool (by simp [hx]), (F0.seq' f1).seq' f2⟩
    · have hx' : decide (0 ≤ x) = false := by simpa using hx
      go_enter Tryz.func60, Tryz.ntmps60
      go_wp2_with fail
      refine (c1 _).mono ?_
      rintro e w1 ⟨rfl, f1⟩
      clear c1 c2
      go_wp2
      go_ret
      exact ⟨ret_bool (by simp [hx']), F0.seq' f1⟩
  · have h4' : (kind != 4) = true := by simpa using h4
    rw [if_neg h4]
    have hbq := beq_bytes k key
    rw [← hbq]
    clear hbq hB h4
    go_enter Tryz.func60, Tryz.ntmps60
    go_wp2
    go_ret
    exact ⟨rfl, F0⟩
def kindB (k : Int) : Bool := decide (1 ≤ k ∧ k ≤ 4)
set_option maxRecDepth 100000 in
set_option maxHeartbeats 2000000 in
theorem isKind_any (k : Int) (w : World) : Calls Tryz.prog 47 #[.int .i64 k] w fun e w' => e = .returned (.bool (kindB k)) ∧ w' = w := by
  go_enter Tryz.func47, Tryz.ntmps47
  go_wp2
  all_goals go_ret
  all_goals refine ⟨ret_bool ?_, rfl⟩
  all_goals unfold kindB
  all_goals simp_all
  all_goals omega
end Go.Proofs.YtdlnflcjodpkiaaGreat
