
/- The two disks look the same. -/
import Derived.Test.YtkmjmbpdmgoknaaDsSameA
import Derived.Test.YtkmjmbpdmgoknaaDsSameB
import Derived.Deep.RegionWith
namespace Go.Proofs.Ytkmjmbpdmgoknaa
open Go.RowKit
section
variable (db : Nat) (lv wv : Value) (L : List Sec) (Q : List (Nat × Sec)) (rb : Nat) (lx qx : Value) (A : List (Option Nat × Sec)) (B : List (Nat × Nat × Sec)) (w : World)
theorem same_all (h : Dk w db lv wv L Q) (r : Rk w rb lx qx A B) (hA : As A = L) (hB : Bs B = Q) (i : Int) : Calls Try.prog 12 #[.pointer (some ⟨db, 0, none⟩), .pointer (some ⟨rb, 0, none⟩), .int .i64 i] w fun e w' => e = .returned (.bool true) ∧ Fr (fun _ => False) w w' := by
  by_cases hi : i < 0 ∨ (L.length : Int) ≤ i
  · exact same_out db lv wv L Q rb lx qx A B w h r hA hB i hi
  · obtain ⟨n, rfl⟩ : ∃ n : Nat, i = n := ⟨i.toNat, by omega⟩
    exact same_in db lv wv L Q rb lx qx A B w h r hA hB n (by omega)
end
end Go.Proofs.Ytkmjmbpdmgoknaa
