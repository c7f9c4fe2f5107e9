
/- The document's own Once. -/
import Derived.Test.YtdlnflcjodpkiaaGreatFdPlc
import Derived.Deep.QuietTactic
import Derived.BigQuiet
namespace Go.Proofs.YtdlnflcjodpkiaaGreat
open Go.RowKit Go.Shelf

/-- No request is there twice. -/
def oncB (hs : List Rec) : Bool := decide ((hs.map (·.req)).Nodup)
theorem oncB_yes {hs : List Rec} (h : ∀ (i j : Nat) (a b : Rec), j < i → hs[i]? = some a → hs[j]? = some b → b.req ≠ a.req) : oncB hs = true := by
  unfold oncB
  rw [decide_eq_true_eq]
  refine List.pairwise_map.2 (List.pairwise_iff_getElem.2 (fun j i hj hi hij => ?_))
  exact h i j _ _ hij (List.getElem?_eq_getElem hi) (List.getElem?_eq_getElem hj)
theorem oncB_no {hs : List Rec} {i j : Nat} {a b : Rec} (hij : j < i) (ha : hs[i]? = some a) (hb : hs[j]? = some b) (he : b.req = a.req) : oncB hs = false := by
  unfold oncB
  rw [decide_eq_false_iff_not]
  intro h
  obtain ⟨hi, ha'⟩ := List.getElem?_eq_some_iff.1 ha
  obtain ⟨hj, hb'⟩ := List.getElem?_eq_some_iff.1 hb
  have := List.pairwise_iff_getElem.1 (List.pairwise_map.1 h) j i hj hi hij
  rw [ha', hb'] at this
  exact this he
set_option maxRecDepth 100000 in
set_option maxHeartbeats 4000000 in
theorem ronce_any (a : Option Addr) (n c : Nat) (ls : List Rec) (hn : n = ls.length) (hf : n ≤ 100000) (w : World) (h : Recs w a c ls) :
    Calls Tryz.prog 28 #[.slice a n c] w fun e w' => e = .returned (.bool (oncB (hist ls))) ∧ Fr (fun _ => False) w w' := by
  have hh := rhistory_any a n c ls hn (by omega) w h
  have hlen : (hist ls).length ≤ 100000 := by have := hist_len ls; omega
  generalize hist ls = hs at *
  obtain ⟨m, hm⟩ : ∃ m, m = hs.length := ⟨_, rfl⟩
  have HM : Hid (m = hs.length) := hm
  have hm9 : m ≤ 100000 := by omega
  have hh2 : Calls Tryz.prog 18 #[.slice a n c] w fun e w' => ∃ a' c', e = .returned (.slice a' m c') ∧ Recs w' a' c' hs ∧ Fr (fun _ => False) w w' := hh.mono fun e w' ⟨a', c', he, hr, _, f⟩ => ⟨a', c', by rw [he, hm], hr, f⟩
  clear hh h hn hf hm hlen
  go_enter Tryz.func28, Tryz.ntmps28
  go_wp2_with fail
  refine hh2.mono ?_
  rintro e w1 ⟨a', c', rfl, hr, f1⟩
  clear hh2
  have HS1 : Hid (∀ W, Fr (fun _ => False) w1 W → Recs W a' c' hs) := fun W f => hr.same f
  have hc3 : m ≤ c' := by have := hr.le; have := HM.out; omega
  have hc3m := hr.max
  have HF1 : Hid (Fr (fun _ => False) w w1) := f1
  clear hr f1
  go_wp2
  go_loopw [11] (fun i wr => ∃ k : Nat, k ≤ m ∧ i = .int .i64 k ∧ Hid (∀ (i j : Nat) (a b : Rec), i < k → j < i → hs[i]? = some a → hs[j]? = some b → b.req ≠ a.req) ∧ Fr (fun _ => False) w1 wr) (fun i _ => m - (intOf i).toNat)
  case atStart => exact ⟨0, by omega, rfl, (fun i j a b h => by omega), Fr.refl _ _⟩
  case round =>
    obtain ⟨k, hk, rfl, HE, F⟩ := hrel
    by_cases hlt : k < m
    · obtain ⟨r, hr⟩ : ∃ r, hs[k]? = some r := ⟨_, List.getElem?_eq_getElem (by have := HM.out; omega)⟩
      obtain ⟨b1, o1, rfl, hb1, hcc1⟩ := (HS1.out _ F).some (by have := HM.out; omega)
      obtain ⟨q0, q1, q2, q3, q4, q5, q6, q7⟩ := rec_range (hcc1 k r hr)
      have hki : (k : Int) < (m : Int) := by omega
      have HR : Hid (hs[k]? = some r) := hr
      obtain ⟨lsn, ep, kind, page, other, req, key, val⟩ := r
      dsimp only at q0 q1 q2 q3 q4 q5 q6 q7
      have HV : Hid (Fr (fun _ => False) w1 (wr.alloc (.cells #[.int .i64 lsn, .int .i64 ep, .int .i64 kind, .int .i64 page, .int .i64 other, .int .i64 req, .string key, .string val] 53))) := F.alloc _
      have HB : Hid (∀ W, Fr (fun _ => False) (wr.alloc (.cells #[.int .i64 lsn, .int .i64 ep, .int .i64 kind, .int .i64 page, .int .i64 other, .int .i64 req, .string key, .string val] 53)) W → W.heap[wr.heap.size]? = some (.cells #[.int .i64 lsn, .int .i64 ep, .int .i64 kind, .int .i64 page, .int .i64 other, .int .i64 req, .string key, .string val] 53 (0, 0))) := fun W f => rec_at wr _ _ f
      clear hr hcc1 F
      rename World => W9
      go_wp2
      obtain ⟨V, hV⟩ : ∃ V, V = W9.alloc (.cells #[.int .i64 lsn, .int .i64 ep, .int .i64 kind, .int .i64 page, .int .i64 other, .int .i64 req, .string key, .string val] 53) := ⟨_, rfl⟩
      rw [← hV] at HB HV ⊢
      clear hV q0 q1 q2 q3 q4 q5 q6 q7
      go_loopw [6] (fun jv wi => ∃ j : Nat, j ≤ k ∧ jv = .int .i64 j ∧ Hid (∀ (i : Nat) (b : Rec), i < j → hs[i]? = some b → b.req ≠ req) ∧ Fr (fun _ => False) V wi) (fun jv _ => k - (intOf jv).toNat)
      case atStart => exact ⟨0, by omega, rfl, (fun i b h => by omega), Fr.refl _ _⟩
      case round =>
        obtain ⟨j, hj, rfl, HJ, G⟩ := hrel
        have HG : Hid (Fr (fun _ => False) w1 wr) := HV.out.seq' G
        obtain ⟨⟨p0, p1, p2, p3, p4, p5, p6, p7⟩, _⟩ := rec_cells (HB.out _ G)
        by_cases hjk : j < k
        · obtain ⟨s, hs2⟩ : ∃ r, hs[j]? = some r := ⟨_, List.getElem?_eq_getElem (by have := HM.out; omega)⟩
          obtain ⟨b9, o9, e9, hb9, hcc9⟩ := (HS1.out _ HG.out).some (by have := HM.out; omega)
          simp only [Option.some.injEq, Addr.mk.injEq, and_true] at e9
          obtain ⟨rfl, rfl⟩ := e9
          obtain ⟨q0, q1, q2, q3, q4, q5, q6, q7⟩ := rec_range (hcc9 j s hs2)
          have hji : (j : Int) < (k : Int) := by omega
          have hjm : (j : Int) < (m : Int) := by omega
          have HY : Hid (s.req = req → oncB hs = false) := fun h => oncB_no hjk HR.out hs2 h
          have HN : Hid (s.req ≠ req → ∀ (i : Nat) (b : Rec), i < j + 1 → hs[i]? = some b → b.req ≠ req) := fun h i b hi hb => by
            rcases Nat.lt_or_ge i j with h1 | h1
            · exact HJ.out i b h1 hb
            · have : i = j := by omega
              subst this
              rw [hs2] at hb; cases hb; exact h
          obtain ⟨lsn', ep', kind', page', other', req', key', val'⟩ := s
          dsimp only at q0 q1 q2 q3 q4 q5 q6 q7 HY HN
          clear hs2 hcc9
          by_cases hq : req' = req
          · have hq' : (req' == req) = true := by simpa using hq
            have HF : Hid (oncB hs = false) := HY.out hq
            clear HY HN hq
            go_wp2
            go_quiet (fail)
            go_wp2
            go_ret
            exact ⟨ret_bool HF.out.symm, HF1.out.seq' (HG.out.drewN _)⟩
          · have hq' : (req' == req) = false := by simpa using hq
            have HN2 : Hid (∀ (i : Nat) (b : Rec), i < j + 1 → hs[i]? = some b → b.req ≠ req) := HN.out hq
            clear HY HN hq
            go_wp2
            go_quiet (fail)
            go_wp2
            go_roundw
            case rel => exact ⟨j + 1, by omega, by go_num, HN2, G.drewN _⟩
            case measure => simp [intOf]; omega
        · obtain rfl : j = k := by omega
          have HE2 : Hid (∀ (i q : Nat) (a b : Rec), i < j + 1 → q < i → hs[i]? = some a → hs[q]? = some b → b.req ≠ a.req) := fun i q a b hi hq ha hb => by
            rcases Nat.lt_or_ge i j with h1 | h1
            · exact HE.out i q a b h1 hq ha hb
            · have : i = j := by omega
              subst this
              rw [HR.out] at ha; cases ha
              exact HJ.out q b hq hb
          go_wp2
          go_roundw
          case rel => exact ⟨j + 1, by omega, by go_num, HE2, HG.out⟩
          case measure => simp [intOf]; omega
    · obtain rfl : k = m := by omega
      have HT : Hid (oncB hs = true) := oncB_yes (fun i j a b hij ha hb => HE.out i j a b (by have := (List.getElem?_eq_some_iff.1 ha).1; have := HM.out; omega) hij ha hb)
      go_wp2
      go_ret
      exact ⟨ret_bool HT.out.symm, HF1.out.seq' F⟩
end Go.Proofs.YtdlnflcjodpkiaaGreat
