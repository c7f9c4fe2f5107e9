/- latticelaw04.speaks answers true. -/
import Derived.Test.YtplkdjmajagpcaaNet4
import Derived.Lib.SlBytesConst
namespace Go.Proofs.Ytplkdjmajagpcaa
open Go.RowKit

/-- Bytes that were typed. -/
theorem row_lit {w : World} {b : Nat} {l : List Nat} {fr : Nat × Nat} (hl : octs l) (hs : l.length ≤ 140737488355328) (h : w.heap[b]? = some (.cells (cellsOf l).toArray 5 fr)) : Row w (some ⟨b, 0, none⟩) l.length l :=
  ⟨Nat.le_refl _, by omega, hs, hl, .inr ⟨b, 0, rfl, lt_of_block h, fun i hi => by
    rw [cell_of_row w b (0 + i) _ _ _ h, Nat.zero_add, List.getElem?_toArray, cellsOf_get l i hi]⟩⟩

/-- A net that is new to w0, all else as it was there. -/
structure NetA (w0 w : World) (nb : Nat) (nodes : Int) (v : Value) (ms : List Msg) : Prop where
  net : Net w nb nodes v ms
  low : ∀ k, netS nb v k → w0.heap.size ≤ k
  fr : Fr (fun _ => False) w0 w
theorem NetA.same {w0 w w' : World} {nb : Nat} {nodes : Int} {v : Value} {ms : List Msg} (h : NetA w0 w nb nodes v ms) (f : Fr (fun _ => False) w w') : NetA w0 w' nb nodes v ms :=
  ⟨h.net.same f, h.low, h.fr.false_trans f⟩
theorem netS_step {W : World} {nb : Nat} {v v' : Value} (o : v'.ownBlock = v.ownBlock ∨ ∃ g, v'.ownBlock = some g ∧ W.heap.size ≤ g) {k : Nat} (hk : netS nb v' k) : netS nb v k ∨ W.heap.size ≤ k := by
  rcases hk with hk | hk
  · exact .inl (.inl hk)
  · rcases o with e | ⟨g, e, hg⟩
    · exact .inl (.inr (by rw [← e]; exact hk))
    · rw [hk] at e
      simp at e
      exact .inr (by omega)
theorem NetA.step {w0 W w' : World} {nb : Nat} {nodes : Int} {v v' : Value} {ms ms' : List Msg} (h : NetA w0 W nb nodes v ms) (n : Net w' nb nodes v' ms') (f : Fr (netS nb v) W w')
    (o : v'.ownBlock = v.ownBlock ∨ ∃ g, v'.ownBlock = some g ∧ W.heap.size ≤ g) : NetA w0 w' nb nodes v' ms' :=
  ⟨n, fun k hk => by
    rcases netS_step o hk with e | e
    · exact h.low k e
    · have := h.fr.size; omega, h.fr.above f h.low⟩
theorem NetA.new (n : Int) (h1 : 1 ≤ n) (h2 : n ≤ 7) (w : World) : NetA w (w.alloc (.cells #[.int .i64 n, .slice none 0 0] 94)) w.heap.size n (.slice none 0 0) [] :=
  ⟨Net.new n h1 h2 w, (fun k hk => by
    rcases hk with e | e
    · omega
    · cases e), (Fr.refl (fun _ => False) w).alloc _⟩
/-- What was picked lies elsewhere than the net. -/
theorem pick_far {w w' : World} {nb : Nat} {nodes : Int} {v v' : Value} {ms : List Msg} {a : Option Addr} {c : Nat} {l : List Nat} (h : Net w nb nodes v ms) (hf : Fresh w w' a c l) (d : ∀ k, (Value.slice a l.length c).ownBlock = some k → v'.ownBlock ≠ some k) :
    ∀ b off, a = some ⟨b, off, none⟩ → ¬ netS nb v' b := by
  rintro b off rfl (e | e)
  · have := hf.new b rfl
    have := lt_of_block h.box
    omega
  · exact d b rfl e
theorem far_step {W : World} {nb : Nat} {v v' : Value} {a : Option Addr} {c : Nat} {l : List Nat} (hr : Row W a c l) (hl : l ≠ []) (hfar : ∀ b off, a = some ⟨b, off, none⟩ → ¬ netS nb v b) (o : v'.ownBlock = v.ownBlock ∨ ∃ g, v'.ownBlock = some g ∧ W.heap.size ≤ g) :
    ∀ b off, a = some ⟨b, off, none⟩ → ¬ netS nb v' b := fun b off ha hk => by
  rcases netS_step o hk with e | e
  · exact hfar b off ha e
  · have := hr.lt ha hl; omega

set_option maxHeartbeats 1000000 in
theorem speaks_any (w : World) : Calls Try.prog 23 #[] w fun e w' => e = .returned (.bool true) ∧ Fr (fun _ => False) w w' := by
  have kc := fun (w : World) (C : Array Value) (n c : Nat) => Lib.run_convert_bytes_const (P := Try.prog) w 31 5 C n c Try.underlying31 Try.underlying5
  have oa : octs [97] := by intro x hx; simp at hx; omega
  have ob : octs [98] := by intro x hx; simp at hx; omega
  go_enter Try.func23, Try.ntmps23
  go_wp2_with fail
  refine (new_ok 2 (by omega) (by omega) _).mono ?_
  rintro e w1 ⟨rfl, e1⟩
  have n1 : NetA w w1 w.heap.size 2 (.slice none 0 0) [] := by rw [e1]; exact NetA.new 2 (by omega) (by omega) w
  clear e1
  generalize w.heap.size = nb at n1 ⊢
  go_wp2_with fail
  have n1' := n1.same ((Fr.refl (fun _ => False) w1).alloc (.cells #[.int .u8 97] 5 (1, 2)))
  refine (send_ok nb 2 _ [] _ n1'.net 0 1 (by omega) (by omega) (by omega) (by omega) (some ⟨w1.heap.size, 0, none⟩) 1 [97] (row_lit (l := [97]) oa (by simp) (heap_alloc_new w1 _)) (by simp) (by simp)).mono ?_
  rintro e w2 ⟨rfl, v2, a2, c2, k2, f2, o2, _⟩
  have n2 := n1'.step k2 f2 o2
  clear k2 f2 o2 n1' n1
  go_wp2_with fail
  have n2' := n2.same ((Fr.refl (fun _ => False) w2).alloc (.cells #[.int .u8 98] 5 (1, 2)))
  refine (send_ok nb 2 _ _ _ n2'.net 0 1 (by omega) (by omega) (by omega) (by omega) (some ⟨w2.heap.size, 0, none⟩) 1 [98] (row_lit (l := [98]) ob (by simp) (heap_alloc_new w2 _)) (by simp) (by simp)).mono ?_
  rintro e w3 ⟨rfl, v3, a3, c3, k3, f3, o3, _⟩
  have n3 := n2'.step k3 f3 o3
  clear k3 f3 o3 n2' n2
  go_wp2_with fail
  refine (pick_ok nb 2 _ _ _ n3.net 1 ⟨0, 1, a3, c3, [98]⟩ rfl).mono ?_
  rintro e w4 ⟨a4, c4, rfl, h4, v4, k4, f4, o4, d4⟩
  have n4 := n3.step k4 f4 o4
  have e4 : (([] ++ [(⟨0, 1, a2, c2, [97]⟩ : Msg)] ++ [(⟨0, 1, a3, c3, [98]⟩ : Msg)]).eraseIdx 1) = [(⟨0, 1, a2, c2, [97]⟩ : Msg)] := rfl
  rw [e4] at n4
  have far4 := pick_far n3.net h4 d4
  have r4 := h4.has.bytes ob (by simp)
  clear k4 f4 n3 e4 h4 d4 o4
  go_wp2_with fail
  have f4 : Fr (fun _ => False) w4 (w4.alloc (.cells #[.int .i64 0, .int .i64 1, .slice a4 1 c4] 61)) := (Fr.refl (fun _ => False) w4).alloc _
  have n4' := n4.same f4
  have b4 : ∀ {k}, netS nb v4 k → k < w4.heap.size := fun {k} hk => n4.net.lt hk
  refine (copy_ok nb 2 _ _ _ n4'.net 0 ⟨0, 1, a2, c2, [97]⟩ rfl (by simp)).mono ?_
  rintro e w5 ⟨rfl, v5, k5, f5, o5⟩
  have n5 := n4'.step k5 f5 o5
  have hb5 := f5.block_eq (heap_alloc_new w4 _) (fun e => Nat.lt_irrefl _ (b4 e))
  have r5 := (r4.same f4).fr f5 (fun b off ha _ => far4 b off ha)
  have far5 := far_step (r4.same f4) (by simp) far4 o5
  have nb5 : ¬ netS nb v5 w4.heap.size := fun e => by
    rcases netS_step o5 e with e | e
    · exact Nat.lt_irrefl _ (b4 e)
    · simp at e; omega
  clear k5 f5 o5 n4' n4 r4 far4 f4 b4
  go_wp2_with fail
  refine (len_any nb 2 _ _ _ n5.net).mono ?_
  rintro e w5' ⟨rfl, rfl⟩
  go_wp2_with fail
  refine (pick_ok nb 2 _ _ _ n5.net 0 ⟨0, 1, a2, c2, [97]⟩ rfl).mono ?_
  rintro e w6 ⟨a6, c6, rfl, h6, v6, k6, f6, o6, d6⟩
  have n6 := n5.step k6 f6 o6
  have r6 := h6.has.bytes oa (by simp)
  have hb6 := f6.block_eq hb5 nb5
  have s6 := r5.fr f6 (fun b off ha _ => far5 b off ha)
  clear k6 f6 o6 d6 h6 hb5 nb5 far5 r5 n5
  have f7 : Fr (fun _ => False) w6 (w6.alloc (.cells #[.int .i64 0, .int .i64 1, .slice a6 1 c6] 61)) := (Fr.refl (fun _ => False) w6).alloc _
  have hb7 := f7.block_eq hb6 (fun f => f)
  have n7 := n6.same f7
  have cva := run_str (P := Try.prog) (src := 31) (dst := 9) Try.underlying31 Try.underlying5 Try.underlying9 (r6.same f7) 1 rfl
  have cvb := run_str (P := Try.prog) (src := 31) (dst := 9) Try.underlying31 Try.underlying5 Try.underlying9 (s6.same f7) 1 rfl
  have sa : strOf [97] = ⟨#[97]⟩ := by decide +kernel
  have sb : strOf [98] = ⟨#[98]⟩ := by decide +kernel
  rw [sa] at cva
  rw [sb] at cvb
  have q1 := cell_at hb7 1
  have q2 := cell_at hb7 2
  simp only [List.getElem?_toArray, List.getElem?_cons_zero, List.getElem?_cons_succ] at q1 q2
  have L5 : (([(⟨0, 1, a2, c2, [97]⟩ : Msg)] ++ [(⟨0, 1, a2, c2, [97]⟩ : Msg)]).length : Int) = 2 := rfl
  have L6 : ((([(⟨0, 1, a2, c2, [97]⟩ : Msg)] ++ [(⟨0, 1, a2, c2, [97]⟩ : Msg)]).eraseIdx 0).length : Int) = 1 := rfl
  clear sa sb hb6 hb7 r6 s6 n6 L5
  go_wp2_with fail
  refine (len_any nb 2 _ _ _ n7.net).mono ?_
  rintro e w8 ⟨rfl, rfl⟩
  rw [L6]
  go_wp2
  go_ret
  exact ⟨rfl, n7.fr⟩
end Go.Proofs.Ytplkdjmajagpcaa
