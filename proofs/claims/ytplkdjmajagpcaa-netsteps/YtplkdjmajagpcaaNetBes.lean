/- A slice beside a net; rows of bytes that came in. -/
import Derived.Test.YtplkdjmajagpcaaNetSpeak
import Derived.Test.YtplkdjmajagpcaaNet5
import Derived.Test.YtplkdjmajagpcaaSteps
namespace Go.Proofs.Ytplkdjmajagpcaa
open Go.ChangeShapes Go.WideShapes Go.ChangeAt Go.RowKit Go.Deep

/-- A slice that a net does not write, and whose own writes do not reach the net. -/
structure Beside (w0 w : World) (nb : Nat) (nodes : Int) (nv : Value) (ms : List Msg) (size : Nat) (sv : Value) (n : Nat) (xs : List Value) : Prop where
  net : NetA w0 w nb nodes nv ms
  has : Has w size sv n xs
  low : ∀ k, sv.ownBlock = some k → w0.heap.size ≤ k
  far : ∀ k, sv.ownBlock = some k → ¬ netS nb nv k
  off : ∀ m ∈ ms, ∀ b o, m.a = some ⟨b, o, none⟩ → m.l ≠ [] → sv.ownBlock ≠ some b
section
variable {w0 w W w' : World} {nb : Nat} {nodes : Int} {nv nv' : Value} {ms ms' : List Msg} {size : Nat} {sv sv' : Value} {n n' : Nat} {xs xs' : List Value}
theorem Beside.same (h : Beside w0 w nb nodes nv ms size sv n xs) (f : Fr (fun _ => False) w w') : Beside w0 w' nb nodes nv ms size sv n xs := ⟨h.net.same f, h.has.fr f (fun _ _ f => f), h.low, h.far, h.off⟩
theorem Beside.nil (h : NetA w0 w nb nodes nv ms) (size : Nat) : Beside w0 w nb nodes nv ms size (.slice none 0 0) 0 [] := ⟨h, Has.nil _ _, (fun _ e => by cases e), (fun _ e => by cases e), (fun _ _ _ _ _ _ e => by cases e)⟩
theorem Beside.go (h : Beside w0 w nb nodes nv ms size sv n xs) (k : Net w' nb nodes nv' ms') (f : Fr (netS nb nv) w w') (o : nv'.ownBlock = nv.ownBlock ∨ ∃ g, nv'.ownBlock = some g ∧ w.heap.size ≤ g)
    (hnew : ∀ m ∈ ms', m ∈ ms ∨ ∀ b off, m.a = some ⟨b, off, none⟩ → w.heap.size ≤ b) : Beside w0 w' nb nodes nv' ms' size sv n xs := by
  refine ⟨h.net.step k f o, h.has.fr f h.far, h.low, fun j hj e => ?_, fun m hm b off ha hl e => ?_⟩
  · rcases netS_step o e with e2 | e2
    · exact h.far j hj e2
    · have := h.has.lt hj; omega
  · rcases hnew m hm with h1 | h1
    · exact h.off m h1 b off ha hl e
    · have := h1 b off ha; have := h.has.lt e; omega
theorem Beside.grow {X : Prop} (h : Beside w0 w nb nodes nv ms size sv n xs) (F : Fr (fun _ => False) w W) (hfr : Fr (fun k => sv.ownBlock = some k ∧ X) W w') (hown : Has w' size sv' n' xs') (hat : sv'.ownBlock = sv.ownBlock ∨ sv'.ownBlock = some W.heap.size) :
    Beside w0 w' nb nodes nv ms size sv' n' xs' := by
  have hW := h.same F
  have hn : Net w' nb nodes nv ms := hW.net.net.framed hfr (fun k hk e => h.far k e.1 hk) (fun m hm b off ha hl e => h.off m hm b off ha hl e.1)
  refine ⟨⟨hn, h.net.low, hW.net.fr.above hfr (fun k e => h.low k e.1)⟩, hown, fun k hk => ?_, fun k hk e => ?_, fun m hm b off ha hl e => ?_⟩
  · rcases hat with e | e
    · exact h.low k (by rw [← e]; exact hk)
    · rw [e] at hk; simp at hk; have := hW.net.fr.size; omega
  · rcases hat with e2 | e2
    · exact h.far k (by rw [← e2]; exact hk) e
    · rw [e2] at hk; simp at hk; have := hW.net.net.lt e; omega
  · rcases hat with e2 | e2
    · exact h.off m hm b off ha hl (by rw [← e2]; exact e)
    · rw [e2] at e; simp at e; have := (hW.net.net.bytes m hm).1.lt ha hl; omega
end

/-- A row of bytes that came in: where it lies, its room, its bytes. -/
structure Rw where
  ad : Option Addr
  cap : Nat
  l : List Nat
structure Rows2 (w : World) (a : Option Addr) (cap : Nat) (rs : List Rw) : Prop where
  le : rs.length ≤ cap
  max : cap ≤ 9223372036854775807
  row : ∀ r ∈ rs, r.l.length ≤ 65535 → Row w r.ad r.cap r.l
  at_ : rs = [] ∨ ∃ b off, a = some ⟨b, off, none⟩ ∧ b < w.heap.size ∧ ∀ i r, rs[i]? = some r → w.cell? ⟨b, off + i, none⟩ = some (.slice r.ad r.l.length r.cap)
theorem Rows2.same {w w' : World} {a : Option Addr} {cap : Nat} {rs : List Rw} (h : Rows2 w a cap rs) (f : Fr (fun _ => False) w w') : Rows2 w' a cap rs := by
  refine ⟨h.le, h.max, fun s hs hl => (h.row s hs hl).same f, ?_⟩
  rcases h.at_ with h0 | ⟨b, off, rfl, hb, hc⟩
  · exact .inl h0
  · exact .inr ⟨b, off, rfl, Nat.lt_of_lt_of_le hb f.size, fun i s hs => (f.cell hb (fun x => x)).trans (hc i s hs)⟩
set_option maxRecDepth 100000 in
theorem rows_open {H : Type} {enc : TypeId × Value → H} {w : World} {fuel len cap : Nat} {a : Option Addr} {d : DataW H} {p : List MemPlace} {t : TypeId} (ht : Try.prog.underlying t = some (.slice 31))
    (h : DataW.trod enc Try.prog w 0 (fun _ => true) true fuel t [.slice a len cap] = some (d, p)) : ∃ rs : List Rw, len = rs.length ∧ Rows2 w a cap rs := by
  rcases open_slice ht h with ⟨hcs, hx⟩ | ⟨x, l, c, m, n, D, Pl, hcs, _, hl, hm, hmm, hx, heach⟩
  · simp at hcs
    obtain ⟨rfl, rfl, rfl⟩ := hcs
    exact ⟨[], rfl, ⟨Nat.le_refl _, by omega, (fun s hs => by cases hs), .inl rfl⟩⟩
  · simp at hcs
    obtain ⟨rfl, rfl, rfl⟩ := hcs
    simp only [if_true] at hmm
    subst hmm
    have hce : Try.prog.cellsOf 31 = 1 := by kernel_rfl
    rw [hce] at heach
    have each : ∀ i, i < m → ∃ r : Rw, w.cell? (x.add i) = some (.slice r.ad r.l.length r.cap) ∧ (r.l.length ≤ 65535 → Row w r.ad r.cap r.l) := by
      intro i hi
      obtain ⟨cs', hc, ht'⟩ := heach i hi
      obtain ⟨_, hlen, hcell⟩ := World.cells?_some hc
      match cs', hlen with
      | [c0], _ =>
        obtain ⟨ad, cap', lb, q3, hrow⟩ := bytes_in ht'
        subst q3
        have z0 := hcell 0 (by omega)
        rw [add_add] at z0
        exact ⟨⟨ad, cap', lb⟩, by simpa using z0, hrow⟩
    have inh : Inhabited Rw := ⟨⟨none, 0, []⟩⟩
    obtain ⟨f, hf⟩ := choose_lt (α := Rw) each
    refine ⟨(List.range len).map f, by simp, ⟨by simpa using hl, by unfold maxLen at hm; omega, fun s hs => ?_, ?_⟩⟩
    · obtain ⟨i, hi, rfl⟩ := List.mem_map.1 hs
      exact (hf i (by have := List.mem_range.1 hi; omega)).2
    · by_cases h0 : len = 0
      · exact .inl (by simp [h0])
      · obtain ⟨b, off, spot⟩ := x
        have hc := (hf 0 (by omega)).1
        have hspot : spot = none := by simpa [Addr.add] using World.cell?_spot hc
        subst hspot
        refine .inr ⟨b, off, rfl, World.block_lt_of_cell? w ⟨b, off + 0, none⟩ (by rw [Addr.add_lit] at hc; exact hc), fun i s hs => ?_⟩
        have hi : i < len := by have := (List.getElem?_eq_some_iff.1 hs).1; simpa using this
        have hs' : s = f i := by simp [hi] at hs; exact hs.symm
        subst hs'
        have p0 := (hf i (by omega)).1
        rw [Addr.add_lit] at p0
        exact p0
theorem infoS : (Try.prog.info? 9).map (fun i => (i.zero, i.size, i.bytes)) = some (some (.string ⟨#[]⟩), 1, 16) := by kernel_rfl
end Go.Proofs.Ytplkdjmajagpcaa
