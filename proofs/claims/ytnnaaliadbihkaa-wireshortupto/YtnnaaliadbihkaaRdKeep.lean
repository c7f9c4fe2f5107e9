/- What two readers of the same bytes keep while the other one reads. -/
import Derived.Test.YtnnaaliadbihkaaRefRd3
import Derived.Test.YtnnaaliadbihkaaRefText
namespace Go.Proofs.Ytnnaaliadbihkaa
open Go.RowKit

theorem Rd.keep {S : Nat → Prop} {w w' : World} {rb cap : Nat} {a : Option Addr} {l : List Nat} {err : Int} (h : Rd w rb a cap l err) (f : Fr S w w') (h1 : ¬ S rb) (h2 : l = [] ∨ ∀ b off sp, a = some ⟨b, off, sp⟩ → ¬ S b) : Rd w' rb a cap l err :=
  ⟨by rw [f.block rb (lt_of_block h.box) h1]; exact h.box, h.row.fr0 f h2, h.far⟩
theorem Rf.keep {S : Nat → Prop} {w w' : World} {rb cap : Nat} {a : Option Addr} {l : List Nat} {err : Int} (h : Rf w rb a cap l err) (f : Fr S w w') (h1 : ¬ S rb) (h2 : l = [] ∨ ∀ b off sp, a = some ⟨b, off, sp⟩ → ¬ S b) : Rf w' rb a cap l err :=
  ⟨by rw [f.block rb (lt_of_block h.box) h1]; exact h.box, h.row.fr0 f h2, h.far⟩
theorem textS_len (st : RS) (m : Int) : (textS st m).2.2.1.length ≤ st.1.length := by
  unfold textS
  repeat (split; simp)
  simp
theorem numS_len (st : RS) (m : Int) : (numS st m).2.2.1.length ≤ st.1.length := by
  unfold numS
  repeat (split; simp)
  simp
theorem nil_of_len {l m : List Nat} (h : l.length ≤ m.length) (e : m = []) : l = [] := by
  rw [e] at h; exact List.eq_nil_of_length_eq_zero (by simpa using h)

theorem near_lt {a a' : Option Addr} {l l' : List Nat} {B : Nat} (hn : Near a a') (hl : l'.length ≤ l.length) (h : l = [] ∨ ∀ b off sp, a = some ⟨b, off, sp⟩ → b < B) : l' = [] ∨ ∀ b off sp, a' = some ⟨b, off, sp⟩ → b < B := by
  rcases h with e | e
  · exact .inl (nil_of_len hl e)
  · exact .inr (fun b off sp q => by obtain ⟨o, s, h2⟩ := hn b off sp q; exact e b o s h2)
theorem Rd.drew {w : World} {rb cap : Nat} {a : Option Addr} {l : List Nat} {err : Int} (h : Rd w rb a cap l err) : Rd w.drew rb a cap l err :=
  ⟨h.box, h.row.same (Fr.refl (fun _ => False) w).drew, h.far⟩
end Go.Proofs.Ytnnaaliadbihkaa
