
/- NdGet, PgEnc2. -/
import Derived.Test.YtnckmajfmkkpgaaGreatBB11
import Derived.Test.YtnckmajfmkkpgaaGreatBB9
/- What Get and Kid tell, and what the document's own tell. -/
namespace Go.Proofs.YtnckmajfmkkpgaaGreat
open Go.RowKit

/-- What Get tells. -/
def getV (n : Nd) (k : ByteArray) : ByteArray := if askE n k 0 0 1 = 0 then (if (plc (bsOf k) n.keys).2 = true then n.vals.getD (plc (bsOf k) n.keys).1 ByteArray.empty else ⟨#[]⟩) else ⟨#[]⟩
def getB (n : Nd) (k : ByteArray) : Bool := if askE n k 0 0 1 = 0 then (plc (bsOf k) n.keys).2 else false
/-- What Kid tells. -/
def kidV (n : Nd) (k : ByteArray) : Int := if askE n k 0 0 2 = 0 then n.kids.getD (kidF k n.keys) 0 else 0
theorem ask1_leaf {n : Nd} {k : ByteArray} {ev en : Int} (h : askE n k ev en 1 = 0) : n.lev = 0 := by
  have := (ask_ok h).2.2.2.2.1
  rcases Decidable.em (n.lev = 0) with e | e
  · exact e
  · exact absurd (.inl ⟨rfl, e⟩) this
theorem ask2_inner {n : Nd} {k : ByteArray} {ev en : Int} (h : askE n k ev en 2 = 0) : n.lev ≠ 0 := fun e => (ask_ok h).2.2.2.2.1 (.inr ⟨rfl, e⟩)
theorem ret3 {a b : ByteArray} {x y : Bool} {e f : Int} (h : a = b) (k : x = y) (g : e = f) : Ending.returned (.tuple #[.string a, .bool x, .int .i64 e]) = .returned (.tuple #[.string b, .bool y, .int .i64 f]) := by rw [h, k, g]
theorem ret_ii {a b : Int} {x y : Int} (h : a = b) (k : x = y) : Ending.returned (.tuple #[.int .i64 a, .int .i64 x]) = .returned (.tuple #[.int .i64 b, .int .i64 y]) := by rw [h, k]
theorem high_le {w : World} {n : Nd} {p : Pt} (h : Nod w n p) : n.high.size ≤ maxLen := Nat.le_trans h.high (by decide)

end Go.Proofs.YtnckmajfmkkpgaaGreat

/- What page.bytesOf and page.sumOf make. -/
namespace Go.Proofs.YtnckmajfmkkpgaaGreat
open Go.RowKit Crcm

theorem Made.of {a b c : World} {v : Value} {l : List Nat} (f : Fr (fun _ => False) a b) (m : Made b c v l) : Made a c v l := by
  refine ⟨⟨m.own.1, ?_⟩, f.seq' m.fr⟩
  rcases m.own.2 with h | ⟨g, cap, cur, hv, hg, r⟩
  · exact .inl h
  · exact .inr ⟨g, cap, cur, hv, Nat.le_trans f.size hg, r⟩
theorem fit1 {x : Int} (h0 : 0 ≤ x) (h1 : x ≤ 20) : fit x ((1 : Nat) : Int) := ⟨h0, .inl ⟨rfl, by omega⟩⟩
theorem fit2 {x : Int} (h0 : 0 ≤ x) (h1 : x ≤ 252) : fit x ((2 : Nat) : Int) := ⟨h0, .inr (.inl ⟨rfl, by omega⟩)⟩
theorem fit4' {x : Int} (h0 : 0 ≤ x) (h1 : x ≤ 4096) : fit x ((4 : Nat) : Int) := ⟨h0, .inr (.inr (.inl ⟨rfl, by omega⟩))⟩
theorem fit8 {x : Int} (h0 : 0 ≤ x) : fit x ((8 : Nat) : Int) := ⟨h0, .inr (.inr (.inr rfl))⟩
theorem keys_small {n : Nd} (h : Rt n) : n.keys.length ≤ 252 := by
  have a := nb_length h
  have b := h.size
  have c : n.keys.length ≤ tsz n.keys := by
    generalize n.keys = l
    induction l with
    | nil => simp
    | cons x r ih =>
      have e2 : tsz (x :: r) = (x.size + 2) + tsz r := by simp [tsz]
      rw [e2, List.length_cons]; omega
  unfold sizeN at b; omega

end Go.Proofs.YtnckmajfmkkpgaaGreat
