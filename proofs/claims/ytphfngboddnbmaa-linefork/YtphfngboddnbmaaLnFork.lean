
/- Where two timelines part: the program's Fork. -/
import Derived.Test.YtphfngboddnbmaaLnAt
namespace Go.Proofs.Ytphfngboddnbmaa
open Go.RowKit
open Go.Proofs.Ytphfngboddnbmaa.Ln

/-- Two timelines: are both right? -/
def arE (ms : List Mk) (last : Int) (ns : List Mk) (lst : Int) : Int := if linB ms last && linB ns lst then 0 else 4
set_option maxRecDepth 100000 in
set_option maxHeartbeats 4000000 in
theorem areRight_any (a a' : Option Addr) (n n' c c' : Nat) (ms ns : List Mk) (last lst : Int) (hn : n = ms.length) (hn' : n' = ns.length) (w : World) (h : Mks w a c ms) (h' : Mks w a' c' ns) : Calls Try.prog 26 #[.agg #[.slice a n c, .int .i64 last], .agg #[.slice a' n' c', .int .i64 lst]] w fun e w' => e = .returned (.int .i64 (arE ms last ns lst)) ∧ Fr (fun _ => False) w w' := by
  subst hn
  subst hn'
  have F1 : Fr (fun _ => False) w ((w.alloc (.cells #[.slice a ms.length c, .int .i64 last] 24)).alloc (.cells #[.slice a' ns.length c', .int .i64 lst] 24)) := (Fr.box _ _).alloc _
  have hck := check_any a ms.length c ms last rfl _ (h.same F1)
  have hck2 := fun W (f : Fr (fun _ => False) w W) => check_any a' ns.length c' ns lst rfl W (h'.same f)
  have HT : Hid (Two ((w.alloc (.cells #[.slice a ms.length c, .int .i64 last] 24)).alloc (.cells #[.slice a' ns.length c', .int .i64 lst] 24)) w.heap.size 24 (.slice a ms.length c) (.int .i64 last)) := (Two.new w _ _ _).fr (Fr.box _ _) (fun f => f)
  have HT2 : Hid (Two ((w.alloc (.cells #[.slice a ms.length c, .int .i64 last] 24)).alloc (.cells #[.slice a' ns.length c', .int .i64 lst] 24)) (w.heap.size + 1) 24 (.slice a' ns.length c') (.int .i64 lst)) := by
    have := Two.new (w.alloc (.cells #[.slice a ms.length c, .int .i64 last] 24)) 24 (.slice a' ns.length c') (.int .i64 lst)
    rwa [World.size_alloc] at this
  obtain ⟨x0, x1, _⟩ := HT.out.cells
  clear h h'
  cases cl : linB ms last
  · rw [ckE_no cl] at hck
    have HR : Hid (arE ms last ns lst = 4) := by show _ = _; unfold arE; rw [cl]; rfl
    clear cl hck2
    go_enter Try.func26, Try.ntmps26
    go_wp2_with fail
    refine hck.mono ?_
    rintro e w1 ⟨rfl, f1⟩
    go_wp2
    go_ret
    exact ⟨ret_int HR.out.symm, F1.seq' f1⟩
  · rw [ckE_yes cl] at hck
    have HR : Hid (arE ms last ns lst = ckE ns lst) := by show _ = _; unfold arE ckE; rw [cl]; rfl
    generalize ckE ns lst = E at *
    clear cl
    go_enter Try.func26, Try.ntmps26
    go_wp2_with fail
    refine hck.mono ?_
    rintro e w1 ⟨rfl, f1⟩
    obtain ⟨y0, y1, _⟩ := (HT2.out.fr f1 (fun f => f)).cells
    have F2 := F1.seq' f1
    go_wp2_with fail
    refine (hck2 _ F2).mono ?_
    rintro e w2 ⟨rfl, f2⟩
    go_wp2
    go_ret
    exact ⟨ret_int HR.out.symm, F2.seq' f2⟩
theorem aheadOf_any (a : Option Addr) (n c : Nat) (ms : List Mk) (last : Int) (i : Nat) (hn : n = ms.length) (hi : i ≤ 1099511627776) (hr : Right ms last) (w : World) (h : Mks w a c ms) : Calls Try.prog 27 #[.agg #[.slice a n c, .int .i64 last], .int .i64 i] w fun e w' => e = .returned (.int .i64 (ahF ms last i)) ∧ Fr (fun _ => False) w w' := by
  subst hn
  have F1 : Fr (fun _ => False) w (w.alloc (.cells #[.slice a ms.length c, .int .i64 last] 24)) := Fr.box _ _
  obtain ⟨x0, x1, _⟩ := (Two.new w 24 (.slice a ms.length c) (.int .i64 last)).cells
  have hl := right_len hr
  by_cases hlt : i < ms.length
  · obtain ⟨m, hm⟩ : ∃ m, ms[i]? = some m := ⟨_, List.getElem?_eq_getElem hlt⟩
    have HR : Hid (ahF ms last i = m.2 - 1) := by show _ = _; unfold ahF; rw [hm]
    obtain ⟨h1, h2, _⟩ := hr.each m (List.mem_of_getElem? hm)
    have h3 := hr.last1
    have hcx := h.max
    obtain ⟨b, off, rfl, hb, hc⟩ := (h.same F1).some (by omega)
    obtain ⟨q0, q1⟩ := mk_range (hc i m hm)
    have hki : (i : Int) < (ms.length : Int) := by omega
    clear hm hc hr h
    go_enter Try.func27, Try.ntmps27
    go_wp2
    go_ret
    exact ⟨ret_int (by rw [HR.out]), F1⟩
  · have HR : Hid (ahF ms last i = last) := by show _ = _; unfold ahF; rw [List.getElem?_eq_none (by omega)]
    have hki : decide ((i : Int) < (ms.length : Int)) = false := decide_eq_false (by omega)
    clear hr h
    go_enter Try.func27, Try.ntmps27
    go_wp2
    go_ret
    exact ⟨ret_int HR.out.symm, F1⟩
theorem eql_mk (x y x' y' : Int) (w : World) : (binOp .eql 53 (.agg #[.int .i64 x, .int .i64 y]) (.agg #[.int .i64 x', .int .i64 y'])).run Try.prog w = .ok (.bool (decide (((x, y) : Mk) = (x', y')))) w := by
  have hf : Try.prog.stoodInHeld 53 = false := by kernel_rfl
  have hu : Try.prog.underlying 53 = some (.struct (Try.prog.fieldsOf 53)) := by kernel_rfl
  rw [run_eql_struct, run_equalIn_struct _ _ _ _ _ hu hf]
  by_cases h1 : x = x' <;> by_cases h2 : y = y' <;> simp [Op.eqFields, go_sem, h1, h2]
def fkN (ms : List Mk) (last : Int) (ns : List Mk) (lst : Int) : Int := if linB ms last && linB ns lst then forkF ms ns last lst else 0
theorem shN_drop {a b : List Mk} {k : Nat} {m n : Mk} (ha : a[k]? = some m) (hb : b[k]? = some n) : shN (a.drop k) (b.drop k) = if m = n then shN (a.drop (k + 1)) (b.drop (k + 1)) + 1 else 0 := by
  rw [List.drop_eq_getElem_cons (List.getElem?_eq_some_iff.1 ha).1, (List.getElem?_eq_some_iff.1 ha).2, List.drop_eq_getElem_cons (List.getElem?_eq_some_iff.1 hb).1, (List.getElem?_eq_some_iff.1 hb).2]
  rfl
theorem shN_end {a b : List Mk} {k : Nat} (h : a.length ≤ k ∨ b.length ≤ k) : shN (a.drop k) (b.drop k) = 0 := by
  rcases h with h | h
  · rw [List.drop_eq_nil_of_le h]; cases b.drop k <;> rfl
  · rw [List.drop_eq_nil_of_le h]; cases a.drop k <;> rfl
end Go.Proofs.Ytphfngboddnbmaa
