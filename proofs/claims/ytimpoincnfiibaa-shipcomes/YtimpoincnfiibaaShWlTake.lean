
/- A beginning of a log. -/
import Derived.Test.YtimpoincnfiibaaShWlMarks
namespace Go.Proofs.Ytimpoincnfiibaa
open Go.RowKit Crcm

theorem Lg.flush {w : World} {lb : Nat} {rv : Value} {ls : List Rec} {fl : Int} (h : Lg w lb rv ls fl) (x : Int) : Lg (w.setCell ⟨lb, 1, none⟩ (.int .i64 x)) lb rv ls x ∧ Fr (fun k => k = lb) w (w.setCell ⟨lb, 1, none⟩ (.int .i64 x)) := by
  have fs : Fr (fun k => k = lb) w (w.setCell ⟨lb, 1, none⟩ (.int .i64 x)) := (Fr.refl (fun k => k = lb) w).setCell (p := ⟨lb, 1, none⟩) (fun _ => rfl) _
  exact ⟨⟨two_setCell1 h.box, h.has.fr fs (fun g e e2 => by have := h.own g e; omega), h.own⟩, fs⟩

theorem zr_agg : Value.agg #[.int .i64 zr.lsn, .int .i64 zr.ep, .int .i64 zr.kind, .int .i64 zr.page, .int .i64 zr.other, .int .i64 zr.req, .string zr.key, .string zr.val] = .agg #[.int .i64 0, .int .i64 0, .int .i64 0, .int .i64 0, .int .i64 0, .int .i64 0, .string ⟨#[]⟩, .string ⟨#[]⟩] := rfl
theorem wl_take {ls : List Rec} (h : Wl ls) (k : Nat) : Wl (ls.take k) := by
  have key : ∀ (i : Nat) (r : Rec), (ls.take k)[i]? = some r → ls[i]? = some r := fun i r hr => by
    rw [List.getElem?_take] at hr
    split at hr
    · exact hr
    · simp at hr
  exact ⟨by rw [List.length_take]; have := h.big; omega, fun i r hr => h.each i r (key i r hr), fun i r s hr hs => h.up i r s (key i r hr) (key _ s hs)⟩
theorem wl_next {ls : List Rec} (h : Wl ls) (k : Nat) (r : Rec) (hr : ls[k]? = some r) : rok r = true ∧ r.lsn = ((ls.take k).length : Int) + 1 ∧ refus (ls.take k) r.ep = 0 := by
  have hk : k < ls.length := (List.getElem?_eq_some_iff.1 hr).1
  have hl : (ls.take k).length = k := by rw [List.length_take]; omega
  have h1 := h.each k r hr
  refine ⟨h1.1, by rw [h1.2, hl], ?_⟩
  unfold refus
  have hb := h.big
  have hle : ¬ r.ep < lastE (ls.take k) := by
    by_cases h0 : k = 0
    · subst h0
      have : lastE (ls.take 0) = 0 := rfl
      rw [this]
      have := (rok_rg h1.1).ep0
      omega
    · obtain ⟨s, hs⟩ : ∃ s, ls[k - 1]? = some s := ⟨_, List.getElem?_eq_getElem (by omega)⟩
      have h2 : (ls.take k)[(ls.take k).length - 1]? = some s := by rw [hl, List.getElem?_take, if_pos (by omega)]; exact hs
      rw [lastE_at h2]
      have := h.up (k - 1) s r hs (by rw [show k - 1 + 1 = k by omega]; exact hr)
      omega
  rw [if_neg hle, if_neg (by omega)]
end Go.Proofs.Ytimpoincnfiibaa
