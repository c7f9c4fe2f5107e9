
/- Which entries are a map's. -/
import Derived.Test.YtdlnflcjodpkiaaGreatFdOp
import Derived.Test.YtdlnflcjodpkiaaGreatFdRCmp
namespace Go.Proofs.YtdlnflcjodpkiaaGreat
open Go.RowKit Go.Shelf

/-- What is asked of the entry at a place. -/
def okAt (L : List En) (j : Nat) : Prop := ∀ e, L[j]? = some e → ekey e.1.size = 0 ∧ evalu e.2.size = 0 ∧ ∀ p, 0 < j → L[j - 1]? = some p → cp p.1 e.1 < 0
def MapOk (L : List En) : Prop := ∀ j, j < L.length → okAt L j
def prvB (e : En) (p : Option En) : Bool := match p with
  | none => true
  | some p => decide (cp p.1 e.1 < 0)
def okAtB (L : List En) (j : Nat) : Bool := match L[j]? with
  | none => true
  | some e => decide (ekey e.1.size = 0) && (decide (evalu e.2.size = 0) && (decide (j = 0) || prvB e L[j - 1]?))
theorem okAtB_iff {L : List En} {j : Nat} : okAtB L j = true ↔ okAt L j := by
  unfold okAtB okAt
  cases hL : L[j]? with
  | none => simp
  | some e =>
    cases hp : L[j - 1]? with
    | none => simp [prvB]
    | some p =>
      simp only [prvB, Bool.and_eq_true, Bool.or_eq_true, decide_eq_true_eq, Option.some.injEq, forall_eq']
      constructor
      · rintro ⟨h1, h2, h3⟩
        exact ⟨h1, h2, fun q hj hq => by subst hq; exact h3.elim (fun h => absurd h (by omega)) id⟩
      · rintro ⟨h1, h2, h3⟩
        refine ⟨h1, h2, ?_⟩
        by_cases hj : j = 0
        · exact .inl hj
        · exact .inr (h3 p (by omega) rfl)
def mapB (L : List En) : Bool := (List.range L.length).all (okAtB L)
theorem mapB_iff {L : List En} : mapB L = true ↔ MapOk L := by
  unfold mapB MapOk
  rw [List.all_eq_true]
  exact ⟨fun h j hj => okAtB_iff.1 (h j (List.mem_range.2 hj)), fun h j hj => okAtB_iff.2 (h j (List.mem_range.1 hj))⟩
theorem mapB_yes {L : List En} (h : MapOk L) : mapB L = true := mapB_iff.2 h
theorem mapB_no {L : List En} {j : Nat} (hj : j < L.length) (h : ¬ okAt L j) : mapB L = false := by
  cases hm : mapB L
  · rfl
  · exact absurd (mapB_iff.1 hm j hj) h
theorem MapOk.ris {L : List En} (h : MapOk L) : Ris L := by
  have key : ∀ (i j : Nat) (hi : i < L.length) (hj : j < L.length), i < j → cp L[i].1 L[j].1 < 0 := by
    intro i j hi hj hij
    induction j with
    | zero => omega
    | succ j ih =>
      have h1 := (h (j + 1) hj _ (List.getElem?_eq_getElem hj)).2.2 L[j] (by omega) (by rw [show j + 1 - 1 = j by omega]; exact List.getElem?_eq_getElem (by omega))
      by_cases e : i = j
      · subst e; exact h1
      · exact cp_lt_trans (ih (by omega) (by omega)) h1
  exact List.pairwise_iff_getElem.2 (fun i j hi hj hij => key i j hi hj hij)
theorem ekey_le {n : Nat} (h : ekey n = 0) : n ≤ 16 := by
  unfold ekey at h
  split at h
  · simp at h
  · omega
theorem MapOk.sml {L : List En} (h : MapOk L) : ∀ e ∈ L, e.1.size ≤ maxLen := fun e he => by
  obtain ⟨j, hj, rfl⟩ := List.getElem_of_mem he
  have := ekey_le (h j hj _ (List.getElem?_eq_getElem hj)).1
  unfold maxLen; omega
theorem mapB_ok {L : List En} (h : mapB L = true) : MapOk L := mapB_iff.1 h
set_option maxRecDepth 100000 in
set_option maxHeartbeats 4000000 in
theorem isMap_any (a : Option Addr) (n c : Nat) (L : List En) (hn : n = L.length) (w : World) (h : Ens w a c L) :
    Calls Tryz.prog 46 #[.slice a n c] w fun e w' => e = .returned (.bool (mapB L)) ∧ Fr (fun _ => False) w w' := by
  have hle : n ≤ c := by rw [hn]; exact h.le
  have hmx := h.max
  have HS : Hid (∀ W, Fr (fun _ => False) w W → Ens W a c L) := fun W f => h.same f
  have HN : Hid (n = L.length) := hn
  clear h hn
  go_enter Tryz.func46, Tryz.ntmps46
  go_wp2
  go_loopw [7] (fun i wr => ∃ k : Nat, k ≤ n ∧ i = .int .i64 k ∧ Hid (∀ j, j < k → okAt L j) ∧ Fr (fun _ => False) w wr) (fun i _ => n - (intOf i).toNat)
  case atStart => exact ⟨0, by omega, rfl, (fun j h => by omega), Fr.refl _ _⟩
  case round =>
    obtain ⟨k, hk, rfl, HE, F⟩ := hrel
    by_cases hlt : k < n
    · obtain ⟨⟨x, y⟩, hs⟩ : ∃ s, L[k]? = some s := ⟨_, List.getElem?_eq_getElem (by have := HN.out; omega)⟩
      obtain ⟨bb, off, rfl, hbb, hcc⟩ := (HS.out _ F).some (by have := HN.out; omega)
      obtain ⟨q0, q1⟩ := hcc k _ hs
      dsimp only at q0 q1
      have hki : (k : Int) < (n : Int) := by omega
      have HNO : Hid (¬ okAt L k → mapB L = false) := fun h => mapB_no (by have := HN.out; omega) h
      have HST : Hid (okAt L k → ∀ j, j < k + 1 → okAt L j) := fun h j hj => by
        rcases Nat.lt_or_ge j k with h1 | h1
        · exact HE.out j h1
        · have : j = k := by omega
          rw [this]; exact h
      have HSX : Hid (L[k]? = some (x, y)) := hs
      have k1 := kcheck_any x
      have k2 := kvalue_any y
      have fb := Fr.box wr (.cells #[.string x, .string y] 77)
      have HF1 : Hid (Fr (fun _ => False) w (wr.alloc (.cells #[.string x, .string y] 77))) := F.seq' fb
      by_cases hA : ekey x.size = 0
      · rw [hA] at k1
        have HA : Hid (ekey x.size = 0) := hA
        clear hA
        by_cases hB : evalu y.size = 0
        · rw [hB] at k2
          have HB : Hid (evalu y.size = 0) := hB
          clear hB
          by_cases hk0 : k = 0
          · have HOK : Hid (okAt L k) := fun e he => by
              rw [HSX.out] at he
              cases he
              exact ⟨HA.out, HB.out, fun p h => by omega⟩
            have hk0' : decide ((0 : Int) < (k : Int)) = false := by simp; omega
            have hk0'' : decide (0 < k) = false := by simp; omega
            clear hs hcc hk0
            go_wp2
            go_quiet (first | (go_at_call 78; exact Calls.quiet_of_same (k1 _)) | (go_at_call 79; exact Calls.quiet_of_same (k2 _)))
            go_wp2
            go_roundw
            case rel => exact ⟨k + 1, by omega, by go_num, HST.out HOK.out, HF1.out.drewN _⟩
            case measure => simp [intOf]; omega
          · obtain ⟨j, rfl⟩ : ∃ j, k = j + 1 := ⟨k - 1, by omega⟩
            obtain ⟨⟨px, py⟩, hp⟩ : ∃ s, L[j]? = some s := ⟨_, List.getElem?_eq_getElem (by have := HN.out; omega)⟩
            obtain ⟨r0, r1⟩ := hcc j _ hp
            dsimp only at r0 r1
            have hpk := (HE.out j (by omega) _ hp).1
            dsimp only at hpk
            have hkp : (0 : Int) < ((j + 1 : Nat) : Int) := by omega
            have hsx : px.size ≤ maxLen := by have := ekey_le hpk; unfold maxLen; omega
            have hxx : x.size ≤ maxLen := by have := ekey_le HA.out; unfold maxLen; omega
            have k3 := compareD_any px x hsx hxx
            have hcc3 : ∀ W : World, Calls Tryz.prog 74 #[.string px, .string x] W fun e w' => e = .returned (.int .i64 (cp px x)) ∧ ∃ m, w' = W.drewN m := fun W => (k3 W).mono fun e w' ⟨h1, h2⟩ => ⟨h1, h2.ex⟩
            have hj1 : IntKind.i64.wrap ((j : Int) + 1 - 1) = (j : Int) := by rw [IntKind.wrap_i64]; omega
            have hj2 : (j : Int) + 1 - 1 = (j : Int) := by omega
            have hj3 : IntKind.i64.wrap (j : Int) = (j : Int) := by rw [IntKind.wrap_i64]; omega
            have hjn : (j : Int) < (n : Int) := by omega
            have HPJ : Hid (L[j]? = some (px, py)) := hp
            have HC : Hid (cp px x < 0 → okAt L (j + 1)) := fun hc e he => by
              rw [HSX.out] at he
              cases he
              exact ⟨HA.out, HB.out, fun p _ h => by rw [show j + 1 - 1 = j by omega, HPJ.out] at h; cases h; exact hc⟩
            have HCN : Hid (¬ cp px x < 0 → ¬ okAt L (j + 1)) := fun hc h => hc ((h _ HSX.out).2.2 (px, py) (by omega) (by rw [show j + 1 - 1 = j by omega]; exact HPJ.out))
            generalize cp px x = z at *
            clear hs hcc hk0 k3 hp hpk hsx hxx
            by_cases hz : z < 0
            · have hz' : decide (0 ≤ z) = false := by simp; omega
              go_wp2
              go_quiet (first | (go_at_call 78; exact Calls.quiet_of_same (k1 _)) | (go_at_call 79; exact Calls.quiet_of_same (k2 _)) | (go_at_call 74; exact Calls.quiet_of (hcc3 _)))
              go_wp2
              go_roundw
              case rel => exact ⟨j + 1 + 1, by omega, by go_num, HST.out (HC.out hz), HF1.out.drewN _⟩
              case measure => simp [intOf]; omega
            · have hz' : decide (0 ≤ z) = true := by simp; omega
              have HFA : Hid (mapB L = false) := HNO.out (HCN.out hz)
              clear hz
              go_wp2
              go_quiet (first | (go_at_call 78; exact Calls.quiet_of_same (k1 _)) | (go_at_call 79; exact Calls.quiet_of_same (k2 _)) | (go_at_call 74; exact Calls.quiet_of (hcc3 _)))
              go_wp2
              go_ret
              exact ⟨ret_bool HFA.out.symm, HF1.out.drewN _⟩
        · have HFA : Hid (mapB L = false) := HNO.out (fun h => hB (h _ HSX.out).2.1)
          have hb' : (((evalu y.size : Nat) : Int) != 0) = true := by simp; omega
          generalize ((evalu y.size : Nat) : Int) = z at *
          clear hs hcc hB
          go_wp2
          go_quiet (first | (go_at_call 78; exact Calls.quiet_of_same (k1 _)) | (go_at_call 79; exact Calls.quiet_of_same (k2 _)))
          go_wp2
          go_ret
          exact ⟨ret_bool HFA.out.symm, HF1.out.drewN _⟩
      · have HFA : Hid (mapB L = false) := HNO.out (fun h => hA (h _ HSX.out).1)
        have ha' : (((ekey x.size : Nat) : Int) != 0) = true := by simp; omega
        generalize ((ekey x.size : Nat) : Int) = z at *
        clear hs hcc hA
        go_wp2
        go_quiet (first | (go_at_call 78; exact Calls.quiet_of_same (k1 _)) | (go_at_call 79; exact Calls.quiet_of_same (k2 _)))
        go_wp2
        go_ret
        exact ⟨ret_bool HFA.out.symm, HF1.out.drewN _⟩
    · obtain rfl : k = n := by omega
      have HTR : Hid (mapB L = true) := mapB_yes (fun j hj => HE.out j (by have := HN.out; omega))
      go_wp2
      go_ret
      exact ⟨ret_bool HTR.out.symm, F⟩
end Go.Proofs.YtdlnflcjodpkiaaGreat
