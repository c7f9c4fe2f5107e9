
/- NdRRest, NdRRest2, NdParts. -/
import Derived.Test.YtlgceleelhppdaaGreatDR31
import Derived.Test.YtlgceleelhppdaaGreatDR32
/- What the document's Rest makes. -/
namespace Go.Proofs.YtlgceleelhppdaaGreat
open Go.RowKit
end Go.Proofs.YtlgceleelhppdaaGreat

/- What the document's Rest makes. -/
namespace Go.Proofs.YtlgceleelhppdaaGreat
open Go.RowKit
end Go.Proofs.YtlgceleelhppdaaGreat

/- The key by which a node is parted is one. -/
namespace Go.Proofs.YtlgceleelhppdaaGreat
open Go.RowKit

theorem spl_one (n : Nd) : ∃ S : ByteArray, ∀ w e w', SplOut n w e w' → e = .returned (.tuple #[.string S, .int .i64 (splE n)]) ∧ Fr (fun _ => False) w w' := by
  by_cases hm : splE n = 0 ∧ ∃ m, Mid n m
  · obtain ⟨h0, m, hm⟩ := hm
    refine ⟨splS n m, fun w e w' h => ⟨?_, h.1⟩⟩
    rcases h.2 with ⟨hne, _⟩ | ⟨_, _, m2, hm2, rfl⟩
    · exact absurd h0 hne
    · rw [hm2.one hm, h0]
  · refine ⟨⟨#[]⟩, fun w e w' h => ⟨?_, h.1⟩⟩
    rcases h.2 with ⟨_, rfl⟩ | ⟨h0, _, m2, hm2, _⟩
    · rfl
    · exact absurd ⟨h0, m2, hm2⟩ hm
theorem rleft_any (n : Nd) (p : Pt) (k : ByteArray) (rt : Int) (hk2 : k.size ≤ 140737488351232) (hk : k.size ≤ maxLen) (w : World) (h : Nod w n p) : Calls Tryz.prog 56 #[(.agg #[.int .i64 n.lev, .int .i64 n.lsn, .int .i64 n.rgt, .string n.high, .slice p.k n.keys.length p.kc, .slice p.v n.vals.length p.vc, .slice p.i n.kids.length p.ic]), .string k, .int .i64 rt] w fun e w' => NdOut2 (okN (lrE n k (nuE rt)) (leftN n k rt)) (lrE n k (nuE rt)) w e w' := by
  by_cases h0 : n.lev = 0
  · exact rleft_leaf n p k rt hk2 hk w h h0
  · exact rleft_inner n p k rt hk2 hk w h h0
end Go.Proofs.YtlgceleelhppdaaGreat
