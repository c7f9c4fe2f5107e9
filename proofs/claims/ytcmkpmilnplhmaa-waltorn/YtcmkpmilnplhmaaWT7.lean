
/- RefSeal, OpenAll, Text. -/
import Derived.Test.YtcmkpmilnplhmaaWT6
import Derived.Test.YtcmkpmilnplhmaaWT5
import Derived.Test.YtcmkpmilnplhmaaWT1
/- What the document's own Seal and Open do. -/
namespace Go.Proofs.Ytcmkpmilnplhmaa
open Go.RowKit Crcm

theorem Row.drew {w : World} {a : Option Addr} {cap : Nat} {l : List Nat} (h : Row w a cap l) : Row w.drew a cap l := h.same (Fr.refl (fun _ => False) w).drew

end Go.Proofs.Ytcmkpmilnplhmaa

/- What crc.Open and the document's Open tell, in one form: the same bytes and the same error. -/
namespace Go.Proofs.Ytcmkpmilnplhmaa
open Go.RowKit Crcm

/-- What is opened, and the error. -/
def opened (l : List Nat) : List Nat × Nat :=
  if l.length < 4 then ([], 10) else if val (l.drop (l.length - 4)) = crc (l.take (l.length - 4)) then (l.take (l.length - 4), 0) else ([], 20)

theorem row_empty (w : World) (a : Option Addr) : Row w a 0 [] := ⟨Nat.le_refl _, by omega, by simp, (fun x hx => by cases hx), .inl rfl⟩

theorem open_all (a : Option Addr) (n cap : Nat) (l : List Nat) (hn : n = l.length) (w : World) (hr : Row w a cap l) :
    Calls Try.prog 31 #[.slice a n cap] w fun e w' => ∃ ax cx, e = .returned (.tuple #[.slice ax (opened l).1.length cx, .int .i64 (((opened l).2 : Nat) : Int)]) ∧ Row w' ax cx (opened l).1 ∧ Fr (fun _ => False) w w' := by
  by_cases h4 : l.length < 4
  · refine (open_cut a n cap (by omega) w).mono ?_
    rintro e w' ⟨rfl, rfl⟩
    have ho : opened l = ([], 10) := by simp [opened, h4]
    rw [ho]
    exact ⟨none, 0, rfl, row_empty _ _, Fr.refl _ _⟩
  · by_cases hg : val (l.drop (l.length - 4)) = crc (l.take (l.length - 4))
    · refine (open_ok a n (l.length - 4) cap l hn (by omega) w hr hg).mono ?_
      rintro e w' ⟨v', rfl, hm⟩
      have ho : opened l = (l.take (l.length - 4), 0) := by simp [opened, h4, hg]
      rw [ho]
      obtain ⟨ax, cx, rfl, hrow⟩ := hm.own.rowW (octs_take hr.byte _) (by have := hr.small; simp; omega)
      exact ⟨ax, cx, rfl, hrow, hm.fr⟩
    · refine (open_bad a n (l.length - 4) cap l hn (by omega) w hr hg).mono ?_
      rintro e w' ⟨rfl, hf⟩
      have ho : opened l = ([], 20) := by simp [opened, h4, hg]
      rw [ho]
      exact ⟨none, 0, rfl, row_empty _ _, hf⟩

theorem le4_iff {t : List Nat} {c : Nat} (ht : octs t) (h4 : t.length = 4) (hc : c < 4294967296) : le 4 c = t ↔ val t = c := by
  rw [le_le4]
  constructor
  · intro h; rw [← h]; exact val_le4 c hc
  · intro h; rw [← h]; exact (le4_val t ht h4).1

end Go.Proofs.Ytcmkpmilnplhmaa

/- What (*Writer).Text does. -/
namespace Go.Proofs.Ytcmkpmilnplhmaa
open Go.RowKit

set_option maxRecDepth 100000 in
set_option maxHeartbeats 400000 in
theorem text_long (p : Option Addr) (s : ByteArray) (hs : 65535 < s.size) (w : World) :
    Calls Try.prog 26 #[.pointer p, .string s] w fun e w' => e = .returned (.int .i64 2) ∧ w' = w := by
  have h : (65535 : Int) < (s.size : Int) := by omega
  go_enter Try.func26, Try.ntmps26
  go_wp2
  go_ret
  exact ⟨rfl, rfl⟩
set_option maxRecDepth 100000 in
set_option maxHeartbeats 400000 in
theorem text_nil (s : ByteArray) (hs : s.size ≤ 65535) (w : World) :
    Calls Try.prog 26 #[.pointer none, .string s] w fun e w' => e = .returned (.int .i64 7) ∧ w' = w := by
  have h : (s.size : Int) ≤ 65535 := by omega
  go_enter Try.func26, Try.ntmps26
  go_wp2
  go_ret
  exact ⟨rfl, rfl⟩

/-- What the last store of Text makes of the writer. -/
theorem Wr.put {w w1 : World} {base wb : Nat} {v v' : Value} {l m : List Nat} (h : Wr w base wb v l) (hg : w.grownBy w1 v.ownBlock) (hown : Mine w1 base v' m) : Wr (w1.setCell ⟨wb, 0, none⟩ v') base wb v' m := by
  have hlt := lt_of_block h.box
  have hne : some wb ≠ v.ownBlock := fun e => by have := (h.own.lt wb e.symm).1; have := h.low; omega
  have hb : w1.heap[wb]? = some (.cells #[v] 71 (0, 0)) := by rw [hg.block wb hlt hne]; exact h.box
  exact ⟨one_setCell hb, h.low, ownsRow_setCell_below hown h.low v'⟩

set_option maxRecDepth 100000 in
set_option maxHeartbeats 1000000 in
theorem text_ok (s : ByteArray) (hs : s.size ≤ 65535) (base wb : Nat) (v : Value) (l : List Nat) (w : World) (h : Wr w base wb v l) (hb : base ≤ w.heap.size) (hroom : l.length + 65600 ≤ 140737488355328) :
    Calls Try.prog 26 #[.pointer (some ⟨wb, 0, none⟩), .string s] w fun e w' => e = .returned (.int .i64 0) ∧
      ∃ v', Wr w' base wb v' (l ++ le 2 s.size ++ bsOf s) ∧ Fr (wrS wb v) w w' ∧ (v'.ownBlock = v.ownBlock ∨ ∃ g, v'.ownBlock = some g ∧ w.heap.size ≤ g) := by
  obtain ⟨i0, hi, hz0, hz1, hz2⟩ := info_parts info8
  have hs' : (s.size : Int) ≤ 65535 := by omega
  go_enter Try.func26, Try.ntmps26
  go_wp2_with fail
  refine (number_any s.size 2 (by omega) base wb v l _ h hb (by omega)).mono ?_
  rintro e w1 ⟨rfl, v1, hw1, hf1, hv1⟩
  have hcell := cell_of_one hw1.box
  have hfree := free_of_one hw1.box
  have hlt1 := lt_of_block hw1.box
  have hsz1 := hf1.size
  have hll : (l ++ le 2 s.size).length = l.length + 2 := by simp [le_length]
  have hne : some wb ≠ v1.ownBlock := fun e => by have := (hw1.own.lt wb e.symm).1; have := hw1.low; omega
  obtain ⟨m, hm⟩ : ∃ m, m = l ++ le 2 s.size := ⟨_, rfl⟩
  rw [← hm] at hw1 hll
  have HM : Hid (l ++ le 2 s.size = m) := hm.symm
  clear hm
  have HLL : Hid (m.length = l.length + 2) := hll
  have hml : m.length + 65536 ≤ 140737488355328 := by omega
  clear hll
  go_wp2_with (at_builtin; refine wpList_append_str _ rfl _ _ 69 9 rfl i0 Try.underlying69 Try.underlying9 hi hz0 hz1 hz2 base v1 m rfl hw1.own s rfl (by omega) (Nat.le_trans hb hsz1) ?_; intro a2 c2 w2 hown2 hgrow2 hat2; have hc2 := (hgrow2.cell_far ⟨wb, 0, none⟩ hlt1 hne).trans hcell; have hf2 := (hgrow2.frozen_far ⟨wb, 0, none⟩ hlt1 hne).trans hfree)
  go_ret
  refine ⟨rfl, .slice a2 (m.length + s.size) c2, ?_, ?_, ?_⟩
  · rw [HM.out]; exact hw1.put hgrow2 hown2
  · refine (hf1.grown hgrow2 (fun k e hk => ?_)).setCell (fun _ => .inl rfl) _
    rcases hv1 with h1 | ⟨g, h1, hge⟩
    · exact .inr (by rw [← h1]; exact e)
    · rw [h1] at e; simp at e; omega
  · rcases hat2 with h2 | h2
    · rw [h2]; exact hv1
    · exact .inr ⟨_, h2, hsz1⟩
end Go.Proofs.Ytcmkpmilnplhmaa
