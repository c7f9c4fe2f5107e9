
/- Of any log, pages that came of it and are rewound to one of its LSNs and then to one ahead of it are those that are rewound to that at once, and the example speaks; with no condition but those of the statement's own form. -/
import Derived.Test.YtihkdffihmhnaaaGreatBB9
import Derived.Test.YtihkdffihmhnaaaGreatRN8
import Derived.Test.YtihkdffihmhnaaaGreatRN9
import Derived.Test.YtihkdffihmhnaaaGreatRN6
namespace Go.Proofs.YtihkdffihmhnaaaGreat.rewindTwice
open Go.ChangeShapes Go.WideShapes Go.ChangeAt Go.RowKit
open Go.ChangeMaps (open_string shut_string)
set_option linter.unusedVariables false

theorem own : ownKnob Tryz.prog.godebug = none := by kernel_rfl
theorem laidOut : laidOutB Tryz.prog = true := by kernel_rfl
theorem bytes8 : Tryz.prog.bytesOf 5 = 1 := by kernel_rfl

open Go.RowKit
theorem rise_lsn (rs : List Rec) : Lsn (riseR rs) := fun i r h => by
  have hl : i < rs.length := by have := (List.getElem?_eq_some_iff.1 h).1; rwa [riseR_length] at this
  rw [riseR_get (List.getElem?_eq_getElem hl)] at h
  simp only [Option.some.injEq] at h
  rw [← h]
  rfl
theorem rise_size {rs : List Rec} (hz : ∀ r ∈ rs, r.key.size ≤ 140737488351232 ∧ r.val.size ≤ 140737488351232) : ∀ r ∈ riseR rs, r.key.size ≤ 140737488351232 ∧ r.val.size ≤ 140737488351232 := fun r h => by
  obtain ⟨i, hi⟩ := List.getElem?_of_mem h
  have hl : i < rs.length := by have := (List.getElem?_eq_some_iff.1 hi).1; rwa [riseR_length] at this
  rw [riseR_get (List.getElem?_eq_getElem hl)] at hi
  simp only [Option.some.injEq] at hi
  rw [← hi]
  exact hz rs[i] (List.getElem_mem hl)
theorem rpl_p0 (L : List Rec) : rplA p0 L = rplP p0 L := by unfold rplA; rw [if_pos (by decide)]
theorem rew_few {ps : List (Int × Nd)} {rs : List Rec} {cut : Int} (h : (rewP ps rs cut).2 = 0) (hp : PsOk ps) : (rewP ps rs cut).1.length ≤ 4096 := by
  obtain ⟨_, h2, _⟩ := rew_zero h
  refine (rplok (tho_ok (k := cut) hp) (rs.take cut.toNat) ?_).few
  unfold rplA at h2
  split at h2
  · exact h2
  · simp at h2
set_option maxRecDepth 100000 in
set_option maxHeartbeats 16000000 in
theorem walk (w : World) (a : Option Addr) (n c : Nat) (rs : List Rec) (hn : n = rs.length) (hf : n * 80 ≤ 140737488355328) (h : Recs w a c rs) (hz : ∀ r ∈ rs, r.key.size ≤ 140737488351232 ∧ r.val.size ≤ 140737488351232) (cut : Int) (_ : (Lit.int .i64 cut).wf = true) (fur : Int) (_ : (Lit.int .i64 fur).wf = true) :
    Calls Tryz.prog 8 #[.slice a n c, .int .i64 cut, .int .i64 fur] w fun e w' => e = .returned (.bool true) ∧ Fr (fun _ => False) w w' := by
  have HSP : Hid (∀ W, Calls Tryz.prog 28 #[] W fun e w' => e = .returned (.bool true) ∧ Fr (fun _ => False) W w') := rwspk_any
  obtain ⟨iR, hiR, hR0, hR1, hR2⟩ := info_parts infoRc
  have hle : n ≤ c := by rw [hn]; exact h.le
  have hmx := h.max
  have HS : Hid (∀ W, Fr (fun _ => False) w W → Recs W a c rs) := fun W f => h.same f
  have HN : Hid (n = rs.length) := hn
  have hnb : n ≤ 1759218604441 := by omega
  have HF : Hid (n * 80 ≤ 140737488355328) := hf
  have HZ : Hid (∀ r ∈ riseR rs, r.key.size ≤ 140737488351232 ∧ r.val.size ≤ 140737488351232) := rise_size hz
  clear h hn hf hz
  go_enter Tryz.func8, Tryz.ntmps8
  go_wp2
  go_loopw [7, 20] (fun o i wr => ∃ (k : Nat) (a' : Option Addr) (c' : Nat), k ≤ n ∧ o = .slice a' k c' ∧ i = .int .i64 k ∧ Hid (Has wr 8 (.slice a' k c') k (((riseR rs).take k).flatMap recC)) ∧ Hid (∀ g, (Value.slice a' k c').ownBlock = some g → w.heap.size ≤ g) ∧ Fr (fun _ => False) w wr) (fun _ i _ => n - (intOf i).toNat)
  case atStart => exact ⟨0, none, 0, by omega, rfl, rfl, Has.nil _ _, (fun g e => by cases e), Fr.refl _ _⟩
  case round =>
    obtain ⟨k, a', c', hk, rfl, rfl, HH, HO, F⟩ := hrel
    by_cases hlt : k < n
    · obtain ⟨r, hr⟩ : ∃ r, rs[k]? = some r := ⟨_, List.getElem?_eq_getElem (by have := HN.out; omega)⟩
      obtain ⟨bb, off, rfl, hbb, hcc⟩ := (HS.out _ F).some (by have := HN.out; omega)
      obtain ⟨q0, q1, q2, q3, q4, q5, q6, q7⟩ := rec_range (hcc k r hr)
      have hki : (k : Int) < (n : Int) := by omega
      have HTK : Hid ((riseR rs).take (k + 1) = (riseR rs).take k ++ [lsnR r ((k : Int) + 1)]) := take_snocR (riseR_get hr)
      have P6 := (Fr.box wr (.cells #[.int .i64 (lsnR r ((k : Int) + 1)).lsn, .int .i64 (lsnR r ((k : Int) + 1)).ep, .int .i64 (lsnR r ((k : Int) + 1)).kind, .int .i64 (lsnR r ((k : Int) + 1)).page, .int .i64 (lsnR r ((k : Int) + 1)).other, .int .i64 (lsnR r ((k : Int) + 1)).req, .string (lsnR r ((k : Int) + 1)).key, .string (lsnR r ((k : Int) + 1)).val] 54)).alloc (.cells #[.int .i64 (lsnR r ((k : Int) + 1)).lsn, .int .i64 (lsnR r ((k : Int) + 1)).ep, .int .i64 (lsnR r ((k : Int) + 1)).kind, .int .i64 (lsnR r ((k : Int) + 1)).page, .int .i64 (lsnR r ((k : Int) + 1)).other, .int .i64 (lsnR r ((k : Int) + 1)).req, .string (lsnR r ((k : Int) + 1)).key, .string (lsnR r ((k : Int) + 1)).val] 54)
      have hrow := HH.out.fr P6 (fun _ _ f => f)
      have FF := F.seq' P6
      have hnews : From ((wr.alloc (.cells #[.int .i64 (lsnR r ((k : Int) + 1)).lsn, .int .i64 (lsnR r ((k : Int) + 1)).ep, .int .i64 (lsnR r ((k : Int) + 1)).kind, .int .i64 (lsnR r ((k : Int) + 1)).page, .int .i64 (lsnR r ((k : Int) + 1)).other, .int .i64 (lsnR r ((k : Int) + 1)).req, .string (lsnR r ((k : Int) + 1)).key, .string (lsnR r ((k : Int) + 1)).val] 54)).alloc (.cells #[.int .i64 (lsnR r ((k : Int) + 1)).lsn, .int .i64 (lsnR r ((k : Int) + 1)).ep, .int .i64 (lsnR r ((k : Int) + 1)).kind, .int .i64 (lsnR r ((k : Int) + 1)).page, .int .i64 (lsnR r ((k : Int) + 1)).other, .int .i64 (lsnR r ((k : Int) + 1)).req, .string (lsnR r ((k : Int) + 1)).key, .string (lsnR r ((k : Int) + 1)).val] 54)) (some ⟨wr.heap.size + 1, 0, none⟩) (recC (lsnR r ((k : Int) + 1))) := .inr ⟨_, _, rfl, by
        have := range_block (heap_alloc_new (wr.alloc (.cells #[.int .i64 (lsnR r ((k : Int) + 1)).lsn, .int .i64 (lsnR r ((k : Int) + 1)).ep, .int .i64 (lsnR r ((k : Int) + 1)).kind, .int .i64 (lsnR r ((k : Int) + 1)).page, .int .i64 (lsnR r ((k : Int) + 1)).other, .int .i64 (lsnR r ((k : Int) + 1)).req, .string (lsnR r ((k : Int) + 1)).key, .string (lsnR r ((k : Int) + 1)).val] 54)) (.cells #[.int .i64 (lsnR r ((k : Int) + 1)).lsn, .int .i64 (lsnR r ((k : Int) + 1)).ep, .int .i64 (lsnR r ((k : Int) + 1)).kind, .int .i64 (lsnR r ((k : Int) + 1)).page, .int .i64 (lsnR r ((k : Int) + 1)).other, .int .i64 (lsnR r ((k : Int) + 1)).req, .string (lsnR r ((k : Int) + 1)).key, .string (lsnR r ((k : Int) + 1)).val] 54)) (xs := recC (lsnR r ((k : Int) + 1))) (o := 0) (fun j v hv => by rw [Nat.zero_add]; simpa [recC] using hv)
        rwa [show (wr.alloc (.cells #[.int .i64 (lsnR r ((k : Int) + 1)).lsn, .int .i64 (lsnR r ((k : Int) + 1)).ep, .int .i64 (lsnR r ((k : Int) + 1)).kind, .int .i64 (lsnR r ((k : Int) + 1)).page, .int .i64 (lsnR r ((k : Int) + 1)).other, .int .i64 (lsnR r ((k : Int) + 1)).req, .string (lsnR r ((k : Int) + 1)).key, .string (lsnR r ((k : Int) + 1)).val] 54)).heap.size = wr.heap.size + 1 by simp] at this⟩
      have HRW : Hid (Has ((wr.alloc (.cells #[.int .i64 (lsnR r ((k : Int) + 1)).lsn, .int .i64 (lsnR r ((k : Int) + 1)).ep, .int .i64 (lsnR r ((k : Int) + 1)).kind, .int .i64 (lsnR r ((k : Int) + 1)).page, .int .i64 (lsnR r ((k : Int) + 1)).other, .int .i64 (lsnR r ((k : Int) + 1)).req, .string (lsnR r ((k : Int) + 1)).key, .string (lsnR r ((k : Int) + 1)).val] 54)).alloc (.cells #[.int .i64 (lsnR r ((k : Int) + 1)).lsn, .int .i64 (lsnR r ((k : Int) + 1)).ep, .int .i64 (lsnR r ((k : Int) + 1)).kind, .int .i64 (lsnR r ((k : Int) + 1)).page, .int .i64 (lsnR r ((k : Int) + 1)).other, .int .i64 (lsnR r ((k : Int) + 1)).req, .string (lsnR r ((k : Int) + 1)).key, .string (lsnR r ((k : Int) + 1)).val] 54)) 8 (.slice a' k c') k (((riseR rs).take k).flatMap recC)) := hrow
      have HNE : Hid (From ((wr.alloc (.cells #[.int .i64 (lsnR r ((k : Int) + 1)).lsn, .int .i64 (lsnR r ((k : Int) + 1)).ep, .int .i64 (lsnR r ((k : Int) + 1)).kind, .int .i64 (lsnR r ((k : Int) + 1)).page, .int .i64 (lsnR r ((k : Int) + 1)).other, .int .i64 (lsnR r ((k : Int) + 1)).req, .string (lsnR r ((k : Int) + 1)).key, .string (lsnR r ((k : Int) + 1)).val] 54)).alloc (.cells #[.int .i64 (lsnR r ((k : Int) + 1)).lsn, .int .i64 (lsnR r ((k : Int) + 1)).ep, .int .i64 (lsnR r ((k : Int) + 1)).kind, .int .i64 (lsnR r ((k : Int) + 1)).page, .int .i64 (lsnR r ((k : Int) + 1)).other, .int .i64 (lsnR r ((k : Int) + 1)).req, .string (lsnR r ((k : Int) + 1)).key, .string (lsnR r ((k : Int) + 1)).val] 54)) (some ⟨wr.heap.size + 1, 0, none⟩) (recC (lsnR r ((k : Int) + 1)))) := hnews
      clear hr hcc hrow hnews P6
      go_wp2_with (at_builtin; refine wpList_append_has _ rfl (.tmp 28) (.tmp 30) 45 45 54 54 rfl iR (.agg #[.int .i64 0, .int .i64 0, .int .i64 0, .int .i64 0, .int .i64 0, .int .i64 0, .string ⟨#[]⟩, .string ⟨#[]⟩]) 8 80 Tryz.underlying45 Tryz.underlying45 hiR hR0 hR1 hR2 rfl (by omega) (.slice a' k c') k (((riseR rs).take k).flatMap recC) rfl HRW.out (some ⟨wr.heap.size + 1, 0, none⟩) 1 1 (recC (lsnR r ((k : Int) + 1))) rfl rfl HNE.out (recC_one _) (by unfold maxLen; omega) (by omega) ?_; intro a4 c4 w8 ht4 f34 hat4)
      have HT5 : Hid (Has w8 8 (.slice a4 (k + 1) c4) (k + 1) (((riseR rs).take (k + 1)).flatMap recC)) := by
        show Has _ _ _ _ _
        rw [HTK.out, List.flatMap_append]
        simpa using ht4
      have HO5 : Hid (∀ g, (Value.slice a4 (k + 1) c4).ownBlock = some g → w.heap.size ≤ g) := fun g e => by
        have hz := F.size
        rcases hat4 with h1 | h1
        · rw [h1] at e; exact HO.out g e
        · rw [h1] at e; simp at e; omega
      have F5 : Fr (fun _ => False) w w8 := FF.trans f34 (fun i hi e => by have := HO.out i e.1; omega)
      clear ht4 hat4 f34 FF q0 q1 q2 q3 q4 q5 q6 q7 HRW HNE HTK
      go_wp2
      go_roundw
      case rel => exact ⟨k + 1, a4, c4, by omega, rfl, by go_num, HT5, HO5, F5⟩
      case measure => simp [intOf]; omega
    · obtain rfl : k = n := by omega
      obtain ⟨L, hL⟩ : ∃ L, L = riseR rs := ⟨_, rfl⟩
      have hlen : k = L.length := by rw [hL, riseR_length]; exact HN.out
      have HLS : Hid (Lsn L) := by rw [hL]; exact rise_lsn rs
      have hR : Recs wr a' c' L := by
        have := HH.out
        rw [List.take_of_length_le (by rw [riseR_length]; have := HN.out; omega), ← hL] at this
        rw [hlen] at this
        obtain ⟨a5, c5, e5, h5⟩ := Recs.of this
        simp only [Value.slice.injEq, true_and] at e5
        obtain ⟨rfl, rfl⟩ := e5
        exact h5
      rw [← hL] at HZ
      have HLN : Hid (k = L.length) := hlen
      have hc1 := hR.le
      have hc2 := hR.max
      rw [← hlen] at hc1
      have HRR : Hid (∀ W, Fr (fun _ => False) wr W → Recs W a' c' L) := fun W f => hR.same f
      have hrp := replay_any (some ⟨wr.heap.size, 0, none⟩) a' 1 1 k c' [rS] L rfl hlen HZ.out (wr.alloc (.cells #[.int .i64 1, .int .i64 0, .int .i64 0, .int .i64 0, .string ⟨#[]⟩, .slice none 0 0, .slice none 0 0, .slice none 0 0] 35)) (slots_root wr) (hR.same (Fr.box _ _))
      rw [show psOf [rS] = p0 from rfl, rpl_p0] at hrp
      obtain ⟨o, ho⟩ : ∃ o, o = rplP p0 L := ⟨_, rfl⟩
      rw [← ho] at hrp
      obtain ⟨P, E⟩ := o
      have HG0 : Hid (Fr (fun _ => False) w (wr.alloc (.cells #[.int .i64 1, .int .i64 0, .int .i64 0, .int .i64 0, .string ⟨#[]⟩, .slice none 0 0, .slice none 0 0, .slice none 0 0] 35))) := F.seq' (Fr.box _ _)
      have HG1 : Hid (Fr (fun _ => False) wr (wr.alloc (.cells #[.int .i64 1, .int .i64 0, .int .i64 0, .int .i64 0, .string ⟨#[]⟩, .slice none 0 0, .slice none 0 0, .slice none 0 0] 35))) := Fr.box _ _
      have HPO : Hid ((P, E) = rplP p0 L) := ho
      clear HH HO F hL hlen hR ho HN HF HS
      go_wp2_with fail
      refine hrp.mono ?_
      rintro e w3 ⟨a3, c3, l3, rfl, hsv3, hp3, f3⟩
      dsimp only at hp3
      have HG : Hid (Fr (fun _ => False) w w3) := HG0.out.seq' f3
      have HGR : Hid (Fr (fun _ => False) wr w3) := HG1.out.seq' f3
      have HSV : Hid (∀ W, Fr (fun _ => False) w3 W → Slots W a3 c3 l3) := fun W f => (hsv3.slots rfl).same f
      have HP3 : Hid (psOf l3 = P) := hp3
      obtain ⟨n3, hn3⟩ : ∃ n3, n3 = l3.length := ⟨_, rfl⟩
      rw [← hn3]
      have HN3 : Hid (n3 = l3.length) := hn3
      clear hrp hsv3 hp3 f3 hn3 HG0 HG1
      by_cases g0 : E = 0
      · subst g0
        by_cases g1 : cut < 0
        · clear HPO
          go_wp2_with fail
          refine (HSP.out _).mono ?_
          rintro e w9 ⟨rfl, f9⟩
          go_wp2
          go_ret
          exact ⟨rfl, HG.out.seq' f9⟩
        · have g1' : decide (cut < 0) = false := by simpa using g1
          by_cases g2 : (k : Int) < cut
          · clear HPO
            go_wp2_with fail
            refine (HSP.out _).mono ?_
            rintro e w9 ⟨rfl, f9⟩
            go_wp2
            go_ret
            exact ⟨rfl, HG.out.seq' f9⟩
          · have g2' : decide ((k : Int) < cut) = false := by simpa using g2
            by_cases g3 : fur < 0
            · clear HPO
              go_wp2_with fail
              refine (HSP.out _).mono ?_
              rintro e w9 ⟨rfl, f9⟩
              go_wp2
              go_ret
              exact ⟨rfl, HG.out.seq' f9⟩
            · have g3' : decide (fur < 0) = false := by simpa using g3
              by_cases g4 : cut < fur
              · clear HPO
                go_wp2_with fail
                refine (HSP.out _).mono ?_
                rintro e w9 ⟨rfl, f9⟩
                go_wp2
                go_ret
                exact ⟨rfl, HG.out.seq' f9⟩
              · have g4' : decide (cut < fur) = false := by simpa using g4
                obtain ⟨ck, hck⟩ : ∃ ck : Nat, cut = ck := ⟨cut.toNat, by omega⟩
                obtain ⟨fk, hfk⟩ : ∃ fk : Nat, fur = fk := ⟨fur.toNat, by omega⟩
                subst hck
                subst hfk
                have HP0 : Hid (rplP p0 L = (P, 0)) := HPO.out.symm
                have HOK : Hid (PsOk P) := rplok p0_ok L HP0.out
                have hn3 : n3 ≤ 100000 := by have := HOK.out.few; rw [← HP3.out, ps_length] at this; have := HN3.out; omega
                have HCF : Hid (ck ≤ L.length ∧ fk ≤ ck) := ⟨by have := HLN.out; omega, by omega⟩
                have hA := rpages_any a3 a' n3 c3 k c' l3 L ck HN3.out HLN.out hn3 HZ.out w3 (HSV.out _ (Fr.refl _ _)) (HRR.out _ HGR.out)
                rw [HP3.out] at hA
                obtain ⟨oA, hoA⟩ : ∃ oA, oA = rewP P L ck := ⟨_, rfl⟩
                rw [← hoA] at hA
                obtain ⟨PA, EA⟩ := oA
                have HOA : Hid (rewP P L ck = (PA, EA)) := hoA.symm
                clear HPO hoA
                go_wp2_with fail
                refine hA.mono ?_
                rintro e w4 ⟨a4, c4, l4, rfl, hsv4, hp4, f4⟩
                dsimp only at hp4
                have hB := rpages_any a3 a' n3 c3 k c' l3 L fk HN3.out HLN.out hn3 HZ.out w4 (HSV.out _ f4) (HRR.out _ (HGR.out.seq' f4))
                rw [HP3.out] at hB
                obtain ⟨oB, hoB⟩ : ∃ oB, oB = rewP P L fk := ⟨_, rfl⟩
                rw [← hoB] at hB
                obtain ⟨PB, EB⟩ := oB
                have HOB : Hid (rewP P L fk = (PB, EB)) := hoB.symm
                have HSA : Hid (∀ W, Fr (fun _ => False) w4 W → Slots W a4 c4 l4) := fun W f => (hsv4.slots rfl).same f
                have HPA : Hid (psOf l4 = PA) := hp4
                obtain ⟨n4, hn4⟩ : ∃ n4, n4 = l4.length := ⟨_, rfl⟩
                rw [← hn4]
                have HN4 : Hid (n4 = l4.length) := hn4
                have HG4 : Hid (Fr (fun _ => False) w w4) := HG.out.seq' f4
                have HGR4 : Hid (Fr (fun _ => False) wr w4) := HGR.out.seq' f4
                clear hA hsv4 hp4 f4 hn4 hoB HG
                go_wp2_with fail
                refine hB.mono ?_
                rintro e w5 ⟨a5, c5, l5, rfl, hsv5, hp5, f5⟩
                dsimp only at hp5
                have HSB : Hid (∀ W, Fr (fun _ => False) w5 W → Slots W a5 c5 l5) := fun W f => (hsv5.slots rfl).same f
                have HPB : Hid (psOf l5 = PB) := hp5
                obtain ⟨n5, hn5⟩ : ∃ n5, n5 = l5.length := ⟨_, rfl⟩
                rw [← hn5]
                have HN5 : Hid (n5 = l5.length) := hn5
                have HG : Hid (Fr (fun _ => False) w w5) := HG4.out.seq' f5
                have HGR5 : Hid (Fr (fun _ => False) wr w5) := HGR4.out.seq' f5
                have HSA5 : Hid (∀ W, Fr (fun _ => False) w5 W → Slots W a4 c4 l4) := fun W f => HSA.out W (f5.seq' f)
                clear hB hsv5 hp5 f5 hn5 HG4 HGR4 HSA
                by_cases g5 : EA = 0
                · subst g5
                  by_cases g6 : EB = 0
                  · subst g6
                    have hAz : (rewP P L ck).2 = 0 := by rw [HOA.out]
                    have hBz : (rewP P L fk).2 = 0 := by rw [HOB.out]
                    have htw := rew_twice HLS.out HP0.out HCF.out.1 HCF.out.2 hAz hBz
                    rw [HOA.out, HOB.out] at htw
                    dsimp only at htw
                    have hA4 : n4 ≤ 100000 := by have := rew_few hAz HOK.out; rw [HOA.out] at this; dsimp only at this; rw [← HPA.out, ps_length] at this; have := HN4.out; omega
                    have hB5 : n5 ≤ 100000 := by have := rew_few hBz HOK.out; rw [HOB.out] at this; dsimp only at this; rw [← HPB.out, ps_length] at this; have := HN5.out; omega
                    have hZt : ∀ r ∈ L.take ck, r.key.size ≤ 140737488351232 ∧ r.val.size ≤ 140737488351232 := fun r hr => HZ.out r (List.mem_of_mem_take hr)
                    have hC := rpages_any a4 a' n4 c4 ck c' l4 (L.take ck) fk HN4.out (by rw [List.length_take]; have := HCF.out.1; omega) hA4 hZt w5 (HSA5.out _ (Fr.refl _ _)) ((HRR.out _ HGR5.out).takeR ck)
                    rw [HPA.out, htw] at hC
                    have hckc : ck ≤ c' := by have := HCF.out.1; have := HLN.out; omega
                    have HB5 : Hid (n5 ≤ 100000) := hB5
                    clear htw hAz hBz hZt hA4 hB5
                    go_wp2_with fail
                    refine hC.mono ?_
                    rintro e w6 ⟨a6, c6, l6, rfl, hsv6, hp6, f6⟩
                    dsimp only at hp6
                    have hpg := rwpages_any a5 n5 c5 l5 HN5.out HB5.out w6 (HSB.out _ f6)
                    have HSC : Hid (∀ W, Fr (fun _ => False) w6 W → Slots W a6 c6 l6) := fun W f => (hsv6.slots rfl).same f
                    have HPC : Hid (psOf l6 = PB) := hp6
                    obtain ⟨n6, hn6⟩ : ∃ n6, n6 = l6.length := ⟨_, rfl⟩
                    rw [← hn6]
                    have HN6 : Hid (n6 = l6.length) := hn6
                    have HG6 : Hid (Fr (fun _ => False) w w6) := HG.out.seq' f6
                    clear hC hsv6 hp6 f6 hn6 HG
                    go_wp2_with fail
                    refine hpg.mono ?_
                    rintro e w7 ⟨a7, c7, rfl, hsv7, f7, _⟩
                    have hsm := rwsame_any a6 a7 n6 l5.length c6 c7 l6 l5 HN6.out rfl (by rw [HPC.out, HPB.out]) w7 (HSC.out _ f7) (hsv7.slots rfl)
                    have HG7 : Hid (Fr (fun _ => False) w w7) := HG6.out.seq' f7
                    obtain ⟨n7, hn7⟩ : ∃ n7, n7 = l5.length := ⟨_, rfl⟩
                    rw [← hn7] at hsm ⊢
                    clear hpg hsv7 f7 hn7 HG6
                    go_wp2_with fail
                    refine hsm.mono ?_
                    rintro e w8 ⟨rfl, f8⟩
                    have HG : Hid (Fr (fun _ => False) w w8) := HG7.out.seq' f8
                    clear hsm f8 HG7
                    go_wp2_with fail
                    refine (HSP.out _).mono ?_
                    rintro e w9 ⟨rfl, f9⟩
                    go_wp2
                    go_ret
                    exact ⟨rfl, HG.out.seq' f9⟩
                  · have g6' : (EB == 0) = false := by simpa using g6
                    have g6'' : (EB != 0) = true := by simpa using g6
                    clear g6
                    go_wp2_with fail
                    refine (HSP.out _).mono ?_
                    rintro e w9 ⟨rfl, f9⟩
                    go_wp2
                    go_ret
                    exact ⟨rfl, HG.out.seq' f9⟩
                · have g5' : (EA == 0) = false := by simpa using g5
                  have g5'' : (EA != 0) = true := by simpa using g5
                  clear g5
                  go_wp2_with fail
                  refine (HSP.out _).mono ?_
                  rintro e w9 ⟨rfl, f9⟩
                  go_wp2
                  go_ret
                  exact ⟨rfl, HG.out.seq' f9⟩
      · have g0' : (E == 0) = false := by simpa using g0
        have g0'' : (E != 0) = true := by simpa using g0
        clear g0 HPO
        go_wp2_with fail
        refine (HSP.out _).mono ?_
        rintro e w9 ⟨rfl, f9⟩
        go_wp2
        go_ret
        exact ⟨rfl, HG.out.seq' f9⟩

set_option maxRecDepth 100000 in
theorem lifted (os : Os) (started : os.Started) (H : Type) (enc : TypeId × Value → H) :
    ReturnsInHanded {} Tryz.checked os 8 .any (Rows.rewindTwiceSpec.pre6 enc Tryz.prog Tryz.f8 Rows.rewindTwiceRow.domain false) (Rows.rewindTwiceSpec.post enc Tryz.prog Tryz.f8 false true false false) := by
  refine returnsInHanded_of_change_sized (C := Tryz.checked) own started (by kernel_rfl) Tryz.func8
    (ChangeSpec.witness6 (enc := enc) (C := Tryz.checked) false ⟨#[], #[.slice none 0 0, .int .i64 0, .int .i64 0], []⟩ 8 (by kernel_rfl) (by kernel_rfl) (by kernel_rfl) (by kernel_rfl)) ?_
  intro W base args ds gs before hval0 hW hcnd hsz0 _
  have hsz : (DataW.weightsEach Tryz.prog (Tryz.f8.params.toList ++ Rows.rewindTwiceSpec.plain.varTypes Tryz.prog) (ds ++ gs)).all (· ≤ reachBytes) = true := hsz0
  clear hsz0
  have hval : ∀ (j : Nat) t v, Tryz.f8.params[j]? = some t → args[j]? = some v → Value.okWide Tryz.prog W .any base t v := hval0
  have hW' := hW
  obtain ⟨p, q, hA0, hV, rfl, hfz, hnd⟩ := hW
  have hA : DataW.TrodAll enc Tryz.prog W 0 (fun _ => true) true Tryz.f8.params.toList args.toList ds p := hA0
  rw [Tryz.params8] at hA hval hsz
  obtain ⟨v0, vs0, d0, ds0, p0, q0, hargs, rfl, rfl, h0, r0⟩ := trodAll_cons hA
  obtain ⟨v1, vs1, d1, ds1, p1, q1, rfl, rfl, rfl, h1, r1⟩ := trodAll_cons r0
  obtain ⟨v2, vs2, d2, ds2, p2, q2, rfl, rfl, rfl, h2, r2⟩ := trodAll_cons r1
  obtain ⟨rfl, rfl, rfl⟩ := trodAll_nil r2
  obtain rfl : args = #[v0, v1, v2] := by cases args; simp_all
  obtain ⟨rfl, rfl⟩ := trodVars_none hV
  obtain ⟨a0, len0, cap0, rfl⟩ := okWide_slice Tryz.underlying45 (hval 0 45 v0 rfl rfl)
  have k0 := h0
  have lt0 : ∀ x ∈ p0, x.block < W.heap.size := by obtain ⟨m, hm⟩ := k0; exact DataW.trod_lt m _ _ _ hm
  have wz0 : ∀ z ∈ d0.weights Tryz.prog 45, z ≤ reachBytes := fun z hz => by simpa using List.all_eq_true.1 hsz z (DataW.weights_mem_each (j := 0) rfl rfl z hz)
  obtain ⟨ls0, hl0, hb0, hr0, hz0⟩ : ∃ ls : List Rec, len0 = ls.length ∧ len0 * 80 ≤ 140737488355328 ∧ Recs W a0 cap0 ls ∧ ∀ r ∈ ls, r.key.size ≤ 140737488351232 ∧ r.val.size ≤ 140737488351232 := by
    obtain ⟨fuel, hf⟩ := h0
    exact recs_open2 hf wz0
  obtain ⟨a1, rfl, rfl, rfl, w1⟩ := open_int Tryz.underlying3 (hval 1 3 v1 rfl rfl) h1
  obtain ⟨a2, rfl, rfl, rfl, w2⟩ := open_int Tryz.underlying3 (hval 2 3 v2 rfl rfl) h2
  clear hA0 hval0
  refine (walk W a0 len0 cap0 ls0 hl0 hb0 hr0 hz0 a1 w1 a2 w2).mono fun e W' ⟨he, fr⟩ => ?_
  have bel : Below W.heap.size W W' := fr.below (Nat.le_refl _) (fun _ f => f.elim)
  subst he
  exact ⟨_, rfl, _, _, _, [], _, [], hW', trodAll_mk1 (shut_bool Tryz.underlying4 _), (trodAll_cons_mk (Below.trod laidOut (by kernel_rfl) (of_decide_eq_true (by kernel_rfl)) k0 bel lt0) (trodAll_cons_mk (shut_int Tryz.underlying3 w1) (trodAll_cons_mk (shut_int Tryz.underlying3 w2) trodAll_mk0))), rfl, bel.frame _, fun h => by cases h⟩

theorem proved : Rows.RewindTwiceSaid :=
  OpenClaim.holds_of_wide 8 Tryz.f8 rfl rfl rfl rfl rfl rfl rfl ⟨rfl, rfl, rfl, rfl, rfl⟩ rfl rfl rfl rfl rfl (by kernel_rfl) Tryz.func8 (by kernel_rfl)
    (of_decide_eq_true (by kernel_rfl)) (by unfold Func.isWrapper; first | (rw [if_pos (by decide +kernel)]; kernel_rfl) | (rw [if_neg (by decide +kernel)]; exact ⟨rfl, rfl⟩))
    (fun os started H enc _ => lifted os started H enc)
end Go.Proofs.YtihkdffihmhnaaaGreat.rewindTwice
namespace Go.Proofs.YtihkdffihmhnaaaGreat
theorem rewindTwice_holds : Rows.RewindTwiceSaid := rewindTwice.proved
#print axioms rewindTwice_holds
end Go.Proofs.YtihkdffihmhnaaaGreat
