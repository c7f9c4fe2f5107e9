/- Where what comes in is of bulk at most 1048576, latticelaw01.WireShort answers true and leaves its arguments as they were: of bytes that were written and are cut, what is whole is read, and then nothing more (1.2, 1.3). -/
import Derived.Test.YtnnaaliadbihkaaArgs
import Derived.Test.YtnnaaliadbihkaaBulk2
import Derived.Test.YtnnaaliadbihkaaShort2
import Derived.Test.YtnnaaliadbihkaaBulk
import Derived.JoinedCond
import Derived.Deep.DeepCutAuto
namespace Go.Proofs.Ytnnaaliadbihkaa.wireShort
open Go.ChangeShapes Go.WideShapes Go.ChangeAt Go.RowKit
open Go.ChangeMaps (open_string shut_string)
set_option linter.unusedVariables false

theorem own : ownKnob Try.prog.godebug = none := by kernel_rfl
theorem laidOut : laidOutB Try.prog = true := by kernel_rfl
theorem bytes8 : Try.prog.bytesOf 5 = 1 := by kernel_rfl

set_option maxRecDepth 100000 in
set_option maxHeartbeats 4000000 in
theorem walk (w : World) (a0 : Option Addr) (len0 cap0 : Nat) (its : List It) (hl0 : len0 = its.length) (z0 : wt its ≤ 1048576) (hr0 : Items w a0 cap0 its) (a1 : Int) (w1 : (Lit.int .i64 a1).wf = true) :
    Calls Try.prog 8 #[.slice a0 len0 cap0, .int .i64 a1] w fun e w' => e = .returned (.bool true) ∧ Fr (fun _ => False) w w' := by
  obtain ⟨i7, hi7, hy0, hy1, hy2⟩ := info_parts info27
  obtain ⟨i3, hi3, hx0, hx1, hx2⟩ := info_parts info3
  have hb1 := bounds_i64 w1
  subst hl0
  have e0 := hr0.le
  have e1 := hr0.max
  have hnb := wt_count its
  have f1 : Fr (fun _ => False) w (w.alloc (.cells #[.slice none 0 0] 60)) := (Fr.refl (fun _ => False) w).alloc _
  go_enter Try.func8, Try.ntmps8
  go_wp2_with fail
  refine (new_any _).mono ?_
  rintro e w1 ⟨rfl, rfl⟩
  go_wp2
  go_loopw [6, 7, 24] (fun v ve i wr => ∃ (k : Nat) (av : Option Addr) (cv : Nat) (vw : Value) (ae : Option Addr) (ce : Nat), k ≤ its.length ∧ i = .int .i64 k ∧ v = .slice av (kept (its.take k)).length cv ∧ ve = .slice ae (kept (its.take k)).length ce ∧ wr.ownsRow (w.heap.size + 1) 3 1 (.slice ae (kept (its.take k)).length ce) (kept (its.take k)).length (endCells (endsOf (kept (its.take k)))) ∧ Dj (.slice ae (kept (its.take k)).length ce) vw ∧ Dj (.slice ae (kept (its.take k)).length ce) (.slice av (kept (its.take k)).length cv) ∧ wr.ownsRow (w.heap.size + 1) 27 3 (.slice av (kept (its.take k)).length cv) (kept (its.take k)).length (itsCells (kept (its.take k))) ∧ Wr wr (w.heap.size + 1) w.heap.size vw (outs (its.take k)) ∧ (∀ j, (Value.slice av (kept (its.take k)).length cv).ownBlock = some j → vw.ownBlock ≠ some j) ∧ Fr (fun _ => False) w wr)
    (fun _ _ i _ => its.length - (intOf i).toNat)
  case atStart => exact ⟨0, none, 0, .slice none 0 0, none, 0, by omega, rfl, rfl, rfl, World.ownsRow_nil _ _ _ _, (fun j e => by simp [Value.ownBlock] at e), (fun j e => by simp [Value.ownBlock] at e), World.ownsRow_nil _ _ _ _, Wr.new w, (fun j e => by simp [Value.ownBlock] at e), f1⟩
  case round =>
    obtain ⟨k, av, cv, vw, ae, ce, hk, rfl, rfl, rfl, hend, hdev, hdek, hown, hwr, hdis, hf⟩ := hrel
    by_cases hlt : k < its.length
    · obtain ⟨b, off, rfl, hb, hc⟩ := hr0.at_.resolve_left (fun h => by rw [h] at hlt; simp at hlt)
      obtain ⟨c0, c1, c2⟩ := hc k hlt
      clear hc
      have d0 := (hf.cell (p := ⟨b, off + k * 3, none⟩) hb (fun f => f)).trans c0
      have d1 := (hf.cell (p := ⟨b, off + k * 3 + 1, none⟩) hb (fun f => f)).trans c1
      have d2 := (hf.cell (p := ⟨b, off + k * 3 + 2, none⟩) hb (fun f => f)).trans c2
      clear c0 c1 c2
      have hwf := hr0.wf k hlt
      have hws := wt_part its k hlt
      have hol := outs_len (its.take k)
      have hkl := kept_len (its.take k)
      have HO : Hid (outs (its.take (k + 1)) = outs (its.take k) ++ outIt (its.getD k itD)) := outs_succ its k hlt
      have HKY : Hid (okIt (its.getD k itD) = true → kept (its.take (k + 1)) = kept (its.take k) ++ [its.getD k itD]) := kept_yes its k hlt
      have HKN : Hid (okIt (its.getD k itD) = false → kept (its.take (k + 1)) = kept (its.take k)) := kept_no its k hlt
      obtain ⟨x, hx⟩ : ∃ x, x = its.getD k itD := ⟨_, rfl⟩
      rw [← hx] at d0 d1 d2 hwf hws HO HKY HKN
      clear hx
      obtain ⟨n, size, s⟩ := x
      obtain ⟨M, hM⟩ : ∃ M, M = outs (its.take k) := ⟨_, rfl⟩
      have HMK : Hid (M = outs (kept (its.take k))) := by rw [hM, outs_kept]; rfl
      rw [← hM] at hwr hol HO
      clear hM
      obtain ⟨K, hK⟩ : ∃ K, K = kept (its.take k) := ⟨_, rfl⟩
      rw [← hK] at hown hdis HKY HKN hkl hend hdev hdek HMK ⊢
      clear hK
      simp only at d0 d1 d2 hws
      obtain ⟨hwf0, hwf1⟩ := hwf
      simp only at hwf0 hwf1
      have hKl : K.length ≤ 1048576 := by have : (its.take k).length ≤ k := List.length_take_le _ _; omega
      have hM : M.length + s.size + 65600 ≤ 140737488355328 := by omega
      clear hws hol hkl
      have HD : Hid (∀ j, (Value.slice av K.length cv).ownBlock = some j → vw.ownBlock ≠ some j) := hdis
      have HDV : Hid (Dj (Value.slice ae K.length ce) vw) := hdev
      have HDK : Hid (Dj (Value.slice ae K.length ce) (Value.slice av K.length cv)) := hdek
      clear hdis hdev hdek
      have zr := hf.size
      have lwb := lt_of_block hwr.box
      by_cases hsz : size = 0
      · subst hsz
        have f0 : Fr (fun _ => False) wr (wr.alloc (.cells #[.int .i64 n, .int .i64 0, .string s] 27)) := (Fr.refl (fun _ => False) wr).alloc _
        have hw0 := hwr.fr f0 (fun f => f) (fun _ _ f => f)
        by_cases hlong : 65535 < s.size
        · have hok : okIt (n, 0, s) = false := by simp [okIt]; omega
          have HO2 : Hid (outs (its.take (k + 1)) = M) := by
            have := HO.out
            rw [outIt_bad hok, List.append_nil] at this
            exact this
          have HK2 : Hid (kept (its.take (k + 1)) = K) := HKN.out hok
          clear hok
          go_wp2_with fail
          refine (text_long _ s hlong _).mono ?_
          rintro e w2 ⟨rfl, rfl⟩
          go_wp2
          go_roundw
          case rel =>
            refine ⟨k + 1, av, cv, vw, ae, ce, by omega, by go_num, ?_⟩
            rw [HO2.out, HK2.out]
            exact ⟨rfl, rfl, hend.alloc _, HDV.out, HDK.out, hown.alloc _, hw0, HD.out, hf.false_trans f0⟩
          case measure => simp [intOf]; omega
        · have hs2 : s.size ≤ 65535 := by omega
          have hok : okIt (n, 0, s) = true := by simp [okIt]; omega
          have hoi : outIt (n, 0, s) = le 2 s.size ++ bsOf s := by unfold outIt; rw [if_pos rfl, if_pos (by simpa using hs2)]
          have HK2 : Hid (kept (its.take (k + 1)) = K ++ [(n, 0, s)]) := HKY.out hok
          have HO2 : Hid (outs (its.take (k + 1)) = M ++ (le 2 s.size ++ bsOf s)) := by
            have := HO.out
            rw [hoi] at this
            exact this
          clear hok hoi
          go_wp2_with fail
          refine (text_ok s hs2 (w.heap.size + 1) w.heap.size vw M _ hw0 (by simp; omega) (by omega)).mono ?_
          rintro e w2 ⟨rfl, vw2, hw2, hf2, hv2⟩
          rw [List.append_assoc] at hw2
          have cb : w2.heap[wr.heap.size]? = some (.cells #[.int .i64 n, .int .i64 0, .string s] 27 (0, 0)) := by
            rw [hf2.block wr.heap.size (by simp) (fun h => by have := hwr.lt h; omega)]; exact heap_alloc_new wr _
          have cc0 : w2.cell? ⟨wr.heap.size, 0, none⟩ = some (.int .i64 n) := by simp [World.cell?, cb]
          have cc1 : w2.cell? ⟨wr.heap.size, 1, none⟩ = some (.int .i64 0) := by simp [World.cell?, cb]
          have cc2 : w2.cell? ⟨wr.heap.size, 2, none⟩ = some (.string s) := by simp [World.cell?, cb]
          clear cb
          have z2 := hf2.size
          have hown3 := row_kept hown HD.out f0 hf2 ((Fr.refl (fun _ => False) w2).alloc (.cells #[.int .i64 n, .int .i64 0, .string s] 27))
          go_wp2_with (at_builtin; refine wpList_append_lies _ rfl (.tmp 52) (.tmp 54) 22 rfl (w.heap.size + 1) 27 i7 _ 3 32 Try.underlying22 hi7 hy0 hy1 hy2 rfl (by omega) (.slice av K.length cv) K.length (itsCells K) rfl hown3 ⟨w2.heap.size, 0, none⟩ 1 1 [.int .i64 n, .int .i64 0, .string s] rfl rfl (World.news_of_block (cs := #[.int .i64 n, .int .i64 0, .string s]) (t := 27) (fr := (0, 0)) (heap_alloc_new w2 _)) (by simp [Value.oneCell']) (by omega) (by unfold maxLen; omega) (by omega) (by simp at *; omega) (w2.heap.size + 1) (by simp) ?_; intro gg cap w4 hown4 hgrow4 hat4 hlt4)
          have hat5 : (Value.slice (some ⟨gg, 0, none⟩) (K.length + 1) cap).ownBlock = (Value.slice av K.length cv).ownBlock ∨ (Value.slice (some ⟨gg, 0, none⟩) (K.length + 1) cap).ownBlock = some (w2.alloc (.cells #[.int .i64 n, .int .i64 0, .string s] 27)).heap.size := by
            rcases hat4 with h | h
            · exact .inl h.symm
            · exact .inr (by rw [h]; simp [Value.ownBlock])
          have f2a : Fr (fun _ => False) w2 (w2.alloc (.cells #[.int .i64 n, .int .i64 0, .string s] 27)) := (Fr.refl (fun _ => False) w2).alloc _
          obtain ⟨S1, S2, S3⟩ := rk_step hf f0 hwr hown HD.out hw2 hf2 hv2 f2a hgrow4 hat5
          have oM : octs (M ++ (le 2 s.size ++ bsOf s)) := octs_app (by rw [HMK.out]; exact outs_octs _) (octs_app (le_octs _ _) (bsOf_octs _))
          have lM : (M ++ (le 2 s.size ++ bsOf s)).length ≤ 140737488355328 := by simp [le_length, bsOf_length]; omega
          refine (bytes_any (w.heap.size + 1) w.heap.size vw2 (M ++ (le 2 s.size ++ bsOf s)) oM lM _ S1).mono ?_
          rintro e w5 ⟨v5, rfl, m5⟩
          obtain ⟨a5, c5, hv5⟩ := m5.own.slice
          obtain ⟨q, hq⟩ : ∃ q, q = (M ++ (le 2 s.size ++ bsOf s)).length := ⟨_, rfl⟩
          have HQ : Hid (q = (M ++ (le 2 s.size ++ bsOf s)).length) := hq
          rw [← hq] at hv5
          rw [hv5]
          clear hv5 hq oM lM
          have f45 : Fr (fun _ => False) w4 (w5.alloc (.cells #[.int .i64 (q : Int)] 3)) := m5.fr.alloc _
          have hend5 := short_mid hend HDV.out HDK.out f0 hf2 f2a hgrow4 f45
          have z45 := f45.size
          have z5 : w.heap.size + 1 ≤ w5.heap.size + 1 := by have := S3.size; have := m5.fr.size; omega
          go_wp2_with (at_builtin; refine wpList_append_lies _ rfl _ _ 56 rfl (w.heap.size + 1) 3 i3 _ 1 8 Try.underlying56 hi3 hx0 hx1 hx2 rfl (by omega) (.slice ae K.length ce) K.length (endCells (endsOf K)) rfl hend5 ⟨w5.heap.size, 0, none⟩ 1 1 [.int .i64 (q : Int)] rfl rfl (World.news_of_block (cs := #[.int .i64 (q : Int)]) (t := 3) (fr := (0, 0)) (heap_alloc_new w5 _)) (by simp [Value.oneCell']) (by omega) (by unfold maxLen; omega) (by omega) (by simpa using z5) (w5.heap.size + 1) (by simp) ?_; intro g6 cap6 w6 hown6 hgrow6 hat6 hlt6)
          go_roundw
          case rel =>
            have hat7 : (Value.slice (some ⟨g6, 0, none⟩) (K.length + 1) cap6).ownBlock = (Value.slice ae K.length ce).ownBlock ∨ (Value.slice (some ⟨g6, 0, none⟩) (K.length + 1) cap6).ownBlock = some (w5.alloc (.cells #[.int .i64 (q : Int)] 3)).heap.size := by
              rcases hat6 with h | h
              · exact .inl h.symm
              · exact .inr (by rw [h]; simp [Value.ownBlock])
            obtain ⟨T1, T2, T3, T4, T5, T6⟩ := short_step hf f0 hwr hown hend HD.out HDV.out HDK.out hw2 hf2 hv2 f2a hgrow4 hat5 hown4 f45 hgrow6 hat7
            have EE : endsOf (K ++ [(n, 0, s)]) = endsOf K ++ [q] := by
              rw [endsOf_snoc, HQ.out, HMK.out]
              congr 2
              rw [← HMK.out, ← HO2.out, ← HK2.out, outs_kept]
            refine ⟨k + 1, some ⟨gg, 0, none⟩, cap, vw2, some ⟨g6, 0, none⟩, cap6, by omega, by go_num, ?_⟩
            rw [HO2.out, HK2.out, List.length_append, itsCells_snoc, EE]
            have hown7 : w6.ownsRow (w.heap.size + 1) 3 1 (.slice (some ⟨g6, 0, none⟩) (K.length + 1) cap6) (K.length + 1) (endCells (endsOf K ++ [q])) := by
              have : endCells (endsOf K ++ [q]) = endCells (endsOf K) ++ [.int .i64 (q : Int)] := by simp [endCells]
              rw [this]; exact hown6
            exact ⟨rfl, rfl, hown7, T4, T5, T2, T1, T3, T6⟩
          case measure => simp [intOf]; omega
      · have HZ : Hid (¬ size = 0) := hsz
        have hsz0 : (size == 0) = false := by simpa using hsz
        have hsz1 : (size != 0) = true := by simpa using hsz
        clear hsz
        have f0 : Fr (fun _ => False) wr (wr.alloc (.cells #[.int .i64 n, .int .i64 size, .string s] 27)) := (Fr.refl (fun _ => False) wr).alloc _
        have hw0 := hwr.fr f0 (fun f => f) (fun _ _ f => f)
        cases hfb : fitB n size
        · have hok : okIt (n, size, s) = false := by unfold okIt; rw [if_neg HZ.out]; exact hfb
          have HO2 : Hid (outs (its.take (k + 1)) = M) := by
            have := HO.out
            rw [outIt_bad hok, List.append_nil] at this
            exact this
          have HK2 : Hid (kept (its.take (k + 1)) = K) := HKN.out hok
          have HF : Hid (fitB n size = false) := hfb
          clear hfb hok
          go_wp2_with fail
          refine (wnum_no _ n size HF.out hwf0 _).mono ?_
          rintro e w2 ⟨rfl, rfl⟩
          go_wp2
          go_roundw
          case rel =>
            refine ⟨k + 1, av, cv, vw, ae, ce, by omega, by go_num, ?_⟩
            rw [HO2.out, HK2.out]
            exact ⟨rfl, rfl, hend.alloc _, HDV.out, HDK.out, hown.alloc _, hw0, HD.out, hf.false_trans f0⟩
          case measure => simp [intOf]; omega
        · obtain ⟨nn, rfl⟩ := Int.eq_ofNat_of_zero_le (a := n) (fitB_fit hfb).1
          obtain ⟨ss, rfl⟩ := Int.eq_ofNat_of_zero_le (a := size) (by have := fitB_sized hfb; omega)
          have hok : okIt ((nn : Int), (ss : Int), s) = true := by unfold okIt; rw [if_neg HZ.out]; exact hfb
          have hoi : outIt ((nn : Int), (ss : Int), s) = le ss nn := by unfold outIt; rw [if_neg HZ.out, if_pos (by simp [hfb])]; simp
          have HK2 : Hid (kept (its.take (k + 1)) = K ++ [((nn : Int), (ss : Int), s)]) := HKY.out hok
          have HO2 : Hid (outs (its.take (k + 1)) = M ++ le ss nn) := by
            have := HO.out
            rw [hoi] at this
            exact this
          have HF : Hid (fitB (nn : Int) (ss : Int) = true) := hfb
          clear hfb hok hoi
          go_wp2_with fail
          refine (wnum_yes nn ss (fitB_fit HF.out) (w.heap.size + 1) w.heap.size vw M _ hw0 (by simp; omega) (by omega)).mono ?_
          rintro e w2 ⟨rfl, vw2, hw2, hf2, hv2⟩
          have cb : w2.heap[wr.heap.size]? = some (.cells #[.int .i64 nn, .int .i64 ss, .string s] 27 (0, 0)) := by
            rw [hf2.block wr.heap.size (by simp) (fun h => by have := hwr.lt h; omega)]; exact heap_alloc_new wr _
          have cc0 : w2.cell? ⟨wr.heap.size, 0, none⟩ = some (.int .i64 nn) := by simp [World.cell?, cb]
          have cc1 : w2.cell? ⟨wr.heap.size, 1, none⟩ = some (.int .i64 ss) := by simp [World.cell?, cb]
          have cc2 : w2.cell? ⟨wr.heap.size, 2, none⟩ = some (.string s) := by simp [World.cell?, cb]
          clear cb
          have z2 := hf2.size
          have hown3 := row_kept hown HD.out f0 hf2 ((Fr.refl (fun _ => False) w2).alloc (.cells #[.int .i64 nn, .int .i64 ss, .string s] 27))
          go_wp2_with (at_builtin; refine wpList_append_lies _ rfl (.tmp 52) (.tmp 54) 22 rfl (w.heap.size + 1) 27 i7 _ 3 32 Try.underlying22 hi7 hy0 hy1 hy2 rfl (by omega) (.slice av K.length cv) K.length (itsCells K) rfl hown3 ⟨w2.heap.size, 0, none⟩ 1 1 [.int .i64 nn, .int .i64 ss, .string s] rfl rfl (World.news_of_block (cs := #[.int .i64 nn, .int .i64 ss, .string s]) (t := 27) (fr := (0, 0)) (heap_alloc_new w2 _)) (by simp [Value.oneCell']) (by omega) (by unfold maxLen; omega) (by omega) (by simp at *; omega) (w2.heap.size + 1) (by simp) ?_; intro gg cap w4 hown4 hgrow4 hat4 hlt4)
          have hat5 : (Value.slice (some ⟨gg, 0, none⟩) (K.length + 1) cap).ownBlock = (Value.slice av K.length cv).ownBlock ∨ (Value.slice (some ⟨gg, 0, none⟩) (K.length + 1) cap).ownBlock = some (w2.alloc (.cells #[.int .i64 nn, .int .i64 ss, .string s] 27)).heap.size := by
            rcases hat4 with h | h
            · exact .inl h.symm
            · exact .inr (by rw [h]; simp [Value.ownBlock])
          have f2a : Fr (fun _ => False) w2 (w2.alloc (.cells #[.int .i64 nn, .int .i64 ss, .string s] 27)) := (Fr.refl (fun _ => False) w2).alloc _
          obtain ⟨S1, S2, S3⟩ := rk_step hf f0 hwr hown HD.out hw2 hf2 hv2 f2a hgrow4 hat5
          have oM : octs (M ++ le ss nn) := octs_app (by rw [HMK.out]; exact outs_octs _) (le_octs _ _)
          have hss8 : ss ≤ 8 := by have := fitB_sized HF.out; omega
          have lM : (M ++ le ss nn).length ≤ 140737488355328 := by rw [List.length_append, le_length]; omega
          refine (bytes_any (w.heap.size + 1) w.heap.size vw2 (M ++ le ss nn) oM lM _ S1).mono ?_
          rintro e w5 ⟨v5, rfl, m5⟩
          obtain ⟨a5, c5, hv5⟩ := m5.own.slice
          obtain ⟨q, hq⟩ : ∃ q, q = (M ++ le ss nn).length := ⟨_, rfl⟩
          have HQ : Hid (q = (M ++ le ss nn).length) := hq
          rw [← hq] at hv5
          rw [hv5]
          clear hv5 hq oM lM
          have f45 : Fr (fun _ => False) w4 (w5.alloc (.cells #[.int .i64 (q : Int)] 3)) := m5.fr.alloc _
          have hend5 := short_mid hend HDV.out HDK.out f0 hf2 f2a hgrow4 f45
          have z45 := f45.size
          have z5 : w.heap.size + 1 ≤ w5.heap.size + 1 := by have := S3.size; have := m5.fr.size; omega
          go_wp2_with (at_builtin; refine wpList_append_lies _ rfl _ _ 56 rfl (w.heap.size + 1) 3 i3 _ 1 8 Try.underlying56 hi3 hx0 hx1 hx2 rfl (by omega) (.slice ae K.length ce) K.length (endCells (endsOf K)) rfl hend5 ⟨w5.heap.size, 0, none⟩ 1 1 [.int .i64 (q : Int)] rfl rfl (World.news_of_block (cs := #[.int .i64 (q : Int)]) (t := 3) (fr := (0, 0)) (heap_alloc_new w5 _)) (by simp [Value.oneCell']) (by omega) (by unfold maxLen; omega) (by omega) (by simpa using z5) (w5.heap.size + 1) (by simp) ?_; intro g6 cap6 w6 hown6 hgrow6 hat6 hlt6)
          go_roundw
          case rel =>
            have hat7 : (Value.slice (some ⟨g6, 0, none⟩) (K.length + 1) cap6).ownBlock = (Value.slice ae K.length ce).ownBlock ∨ (Value.slice (some ⟨g6, 0, none⟩) (K.length + 1) cap6).ownBlock = some (w5.alloc (.cells #[.int .i64 (q : Int)] 3)).heap.size := by
              rcases hat6 with h | h
              · exact .inl h.symm
              · exact .inr (by rw [h]; simp [Value.ownBlock])
            obtain ⟨T1, T2, T3, T4, T5, T6⟩ := short_step hf f0 hwr hown hend HD.out HDV.out HDK.out hw2 hf2 hv2 f2a hgrow4 hat5 hown4 f45 hgrow6 hat7
            have EE : endsOf (K ++ [((nn : Int), (ss : Int), s)]) = endsOf K ++ [q] := by
              rw [endsOf_snoc, HQ.out, HMK.out]
              congr 2
              rw [← HMK.out, ← HO2.out, ← HK2.out, outs_kept]
            refine ⟨k + 1, some ⟨gg, 0, none⟩, cap, vw2, some ⟨g6, 0, none⟩, cap6, by omega, by go_num, ?_⟩
            rw [HO2.out, HK2.out, List.length_append, itsCells_snoc, EE]
            have hown7 : w6.ownsRow (w.heap.size + 1) 3 1 (.slice (some ⟨g6, 0, none⟩) (K.length + 1) cap6) (K.length + 1) (endCells (endsOf K ++ [q])) := by
              have : endCells (endsOf K ++ [q]) = endCells (endsOf K) ++ [.int .i64 (q : Int)] := by simp [endCells]
              rw [this]; exact hown6
            exact ⟨rfl, rfl, hown7, T4, T5, T2, T1, T3, T6⟩
          case measure => simp [intOf]; omega
    · have ek : its.take k = its := List.take_of_length_le (by omega)
      rw [ek] at hown hwr hdis hend hdev hdek ⊢
      have hoc := outs_octs its
      have hol : (outs its).length ≤ 2097152 := by have := outs_len its; omega
      have hkl := kept_len its
      have HOK : Hid (outs (kept its) = outs its) := outs_kept its
      have HKO : Hid (∀ j, j < (kept its).length → okIt ((kept its).getD j itD) = true) := kept_ok its
      have HKW : Hid (∀ j, j < (kept its).length → itWf ((kept its).getD j itD)) := kept_wf hr0.wf
      obtain ⟨M, hM⟩ : ∃ M, M = outs its := ⟨_, rfl⟩
      obtain ⟨K, hK⟩ : ∃ K, K = kept its := ⟨_, rfl⟩
      rw [← hM] at hwr hoc hol HOK
      rw [← hK] at hown hend hdis hkl HOK HKO HKW ⊢
      clear hM hK ek hdis hr0 hdev hdek
      go_wp2_with fail
      refine (bytes_any (w.heap.size + 1) w.heap.size vw M hoc (by omega) _ hwr).mono ?_
      rintro e w5 ⟨v5, rfl, m5⟩
      obtain ⟨a5, c5, hv5, hr5⟩ := m5.own.row hoc (by omega)
      rw [hv5]
      clear hv5
      have hle5 := hr5.le
      have hmx5 := hr5.max
      obtain ⟨B, hB⟩ : ∃ B : Bool, B = decide (a1 < 0 ∨ (M.length : Int) < a1) := ⟨_, rfl⟩
      have HB : Hid (B = decide (a1 < 0 ∨ (M.length : Int) < a1)) := hB
      clear hB
      go_upto_region 14 with fail
      go_cut [72] (fun b wc => b = .bool B ∧ w5 = wc)
      case first =>
        by_cases hneg : a1 < 0
        · have hBt : B = true := by rw [HB.out]; exact decide_eq_true (Or.inl hneg)
          subst hBt
          go_wp2
          go_meet
          exact ⟨rfl, rfl⟩
        · have hn0 : decide (a1 < 0) = false := decide_eq_false hneg
          by_cases hbig : (M.length : Int) < a1
          · have hb0 : decide ((M.length : Int) < a1) = true := decide_eq_true hbig
            have hBt : B = true := by rw [HB.out]; exact decide_eq_true (Or.inr hbig)
            subst hBt
            go_wp2
            go_meet
            exact ⟨by simp, rfl⟩
          · have hb0 : decide ((M.length : Int) < a1) = false := decide_eq_false hbig
            have hBf : B = false := by rw [HB.out]; exact decide_eq_false (by omega)
            subst hBf
            go_wp2
            go_meet
            exact ⟨by simp, rfl⟩
      case rest =>
      obtain ⟨rfl, rfl⟩ := hcut
      go_upto_if 72 with fail
      go_cut [1] (fun t wc => ∃ T : Nat, t = .int .i64 T ∧ T ≤ M.length ∧ w5 = wc)
      case first =>
        cases B
        · have hno : ¬ (a1 < 0 ∨ (M.length : Int) < a1) := of_decide_eq_false HB.out.symm
          go_wp2
          go_meet
          exact ⟨a1.toNat, val_int (by omega), by omega, rfl⟩
        · go_wp2
          go_meet
          exact ⟨M.length, rfl, Nat.le_refl _, rfl⟩
      case rest =>
      obtain ⟨T, rfl, hT, rfl⟩ := hcut
      clear HB w1 hb1
      have i1 : (0 : Int) ≤ (T : Int) := by omega
      have i2 : (T : Int) ≤ (c5 : Int) := by omega
      have htl : T = (M.take T).length := by simp; omega
      have HTL : Hid (T = (M.take T).length) := htl
      clear htl
      go_wp2_with fail
      refine (of_any a5 T c5 (M.take T) HTL.out _ (hr5.take T)).mono ?_
      rintro e w6 ⟨rb, a6, c6, rfl, hrd6, f56, hrb, ha6⟩
      have hown6 := owns_fr (owns_fr hown m5.fr (fun _ _ f => f)) f56 (fun _ _ f => f)
      have hend6 := owns_fr (owns_fr hend m5.fr (fun _ _ f => f)) f56 (fun _ _ f => f)
      have hgl : ∀ j, (Value.slice av K.length cv).ownBlock = some j → j < rb := fun j hj => by
        have := (hown.lt j hj).2; have := m5.fr.size; omega
      have hgl2 : ∀ j, (Value.slice ae K.length ce).ownBlock = some j → j < rb := fun j hj => by
        have := (hend.lt j hj).2; have := m5.fr.size; omega
      have f06 := (hf.false_trans m5.fr).false_trans f56
      have zrb : w.heap.size ≤ rb := by have := hf.size; have := m5.fr.size; omega
      have hcs := Cut.start K T
      rw [HOK.out] at hcs
      clear hown hend hwr m5 hr5 f56 ha6 hf
      go_wp2
      go_loopw [83] (fun i wr => ∃ (j : Nat) (a : Option Addr) (c : Nat) (st : RS), j ≤ K.length ∧ i = .int .i64 j ∧ Rd wr rb a c st.1 st.2 ∧ Cut K T j st ∧ Fr (fun k => k = rb) w6 wr)
        (fun i _ => K.length - (intOf i).toNat)
      case atStart => exact ⟨0, a6, c6, (M.take T, 0), by omega, rfl, hrd6, hcs, Fr.refl _ _⟩
      case round =>
        obtain ⟨j, a, c, st, hj, rfl, hrd, hcut, hf⟩ := hrel
        by_cases hlt2 : j < K.length
        · obtain ⟨g, cg, he, hge, hlg⟩ := hown6.form (by omega)
          simp only [Value.slice.injEq, true_and] at he
          obtain ⟨rfl, rfl⟩ := he
          obtain ⟨ge, cge, he2, hgee, hlge⟩ := hend6.form (by omega)
          simp only [Value.slice.injEq, true_and] at he2
          obtain ⟨rfl, rfl⟩ := he2
          have hgr := hgl g rfl
          have hgr2 := hgl2 ge rfl
          obtain ⟨c0, c1, c2⟩ := kept_cells hown6 rfl j hlt2
          have d0 := (hf.cell (p := ⟨g, j * 3, none⟩) hlg (fun e => by simp at e; omega)).trans c0
          have d1 := (hf.cell (p := ⟨g, j * 3 + 1, none⟩) hlg (fun e => by simp at e; omega)).trans c1
          have d2 := (hf.cell (p := ⟨g, j * 3 + 2, none⟩) hlg (fun e => by simp at e; omega)).trans c2
          have hce : w6.cell? ⟨ge, j, none⟩ = some (.int .i64 (((outs (K.take (j + 1))).length : Nat) : Int)) := by
            rw [hend6.cellAt j (by omega)]; exact endCells_get K j hlt2
          clear c0 c1 c2
          have hok := HKO.out j hlt2
          have hwf := HKW.out j hlt2
          obtain ⟨x, hx⟩ : ∃ x, x = K.getD j itD := ⟨_, rfl⟩
          rw [← hx] at d0 d1 d2 hok hwf
          obtain ⟨n, size, s⟩ := x
          have HX : Hid (K.getD j itD = (n, size, s)) := hx.symm
          clear hx
          simp only at d0 d1 d2
          obtain ⟨hwf0, hwf1⟩ := hwf
          simp only at hwf0 hwf1
          have zwx : rb < wr.heap.size := lt_of_block hrd.box
          have HCUT : Hid (Cut K T j st) := hcut
          clear hcut
          have ij0 : (0 : Int) ≤ (j : Int) := by omega
          have ij1 : (j : Int) < (K.length : Int) := by omega
          by_cases hsz : size = 0
          · subst hsz
            have hs2 : s.size ≤ 65535 := by simpa [okIt] using hok
            clear hok
            have f0 : Fr (fun _ => False) wr (wr.alloc (.cells #[.int .i64 n, .int .i64 0, .string s] 27)) := (Fr.refl (fun _ => False) wr).alloc _
            have hrd0 := hrd.keep f0 (fun f => f) (.inr (fun _ _ _ _ f => f))
            obtain ⟨hcut2, htold⟩ := told_text hlt2 HX.out hs2 HCUT.out
            have HC2 : Hid (Cut K T (j + 1) (textS st 65535).2.2) := hcut2
            clear hrd hcut2
            rcases htold with ⟨het, hpt⟩ | ⟨het, hpt⟩
            · have HET : Hid ((textS st 65535).2.1 = 0) := het
              clear het
              have ipt : (((outs (K.take (j + 1))).length : Nat) : Int) ≤ (T : Int) := by omega
              go_wp2_with fail
              refine (rtext_all (65535) rb a c st _ hrd0).mono ?_
              rw [HET.out]
              rintro e w8 ⟨rfl, a8, c8, hrd8, g8, n8⟩
              have f8 : Fr (fun k => k = rb) w6 w8 := (hf.trans f0 (fun _ _ f => f.elim)).trans g8 (fun _ _ e => e)
              have de := (f8.cell (p := ⟨ge, j, none⟩) hlge (fun e => by simp at e; omega)).trans hce
              clear hrd0
              go_wp2
              go_roundw
              case rel => exact ⟨j + 1, a8, c8, _, by omega, by go_num, hrd8, HC2.out, f8⟩
              case measure => simp [intOf]; omega
            · have HET : Hid ((textS st 65535).2.1 = 10) := het
              clear het
              have ipt : ¬ (((outs (K.take (j + 1))).length : Nat) : Int) ≤ (T : Int) := by omega
              go_wp2_with fail
              refine (rtext_all (65535) rb a c st _ hrd0).mono ?_
              rw [HET.out]
              rintro e w8 ⟨rfl, a8, c8, hrd8, g8, n8⟩
              have f8 : Fr (fun k => k = rb) w6 w8 := (hf.trans f0 (fun _ _ f => f.elim)).trans g8 (fun _ _ e => e)
              have de := (f8.cell (p := ⟨ge, j, none⟩) hlge (fun e => by simp at e; omega)).trans hce
              clear hrd0
              go_wp2
              go_roundw
              case rel => exact ⟨j + 1, a8, c8, _, by omega, by go_num, hrd8, HC2.out, f8⟩
              case measure => simp [intOf]; omega
          · have HZ : Hid (¬ size = 0) := hsz
            have hsz0 : (size == 0) = false := by simpa using hsz
            clear hsz
            have hfb : fitB n size = true := by unfold okIt at hok; rw [if_neg HZ.out] at hok; exact hok
            obtain ⟨nn, rfl⟩ := Int.eq_ofNat_of_zero_le (a := n) (fitB_fit hfb).1
            obtain ⟨ss, rfl⟩ := Int.eq_ofNat_of_zero_le (a := size) (by have := fitB_sized hfb; omega)
            clear hok
            have f0 : Fr (fun _ => False) wr (wr.alloc (.cells #[.int .i64 nn, .int .i64 ss, .string s] 27)) := (Fr.refl (fun _ => False) wr).alloc _
            have hrd0 := hrd.keep f0 (fun f => f) (.inr (fun _ _ _ _ f => f))
            obtain ⟨hcut2, htold⟩ := told_num hlt2 HX.out HZ.out hfb hwf0.2 HCUT.out
            have HC2 : Hid (Cut K T (j + 1) (numS st (ss : Int)).2.2) := hcut2
            clear hrd hcut2
            rcases htold with ⟨het, hpt⟩ | ⟨het, hpt⟩
            · have HET : Hid ((numS st (ss : Int)).2.1 = 0) := het
              clear het
              have ipt : (((outs (K.take (j + 1))).length : Nat) : Int) ≤ (T : Int) := by omega
              go_wp2_with fail
              refine (rnum_all ((ss : Int)) rb a c st _ hrd0).mono ?_
              rw [HET.out]
              rintro e w8 ⟨rfl, a8, c8, hrd8, g8, n8⟩
              have f8 : Fr (fun k => k = rb) w6 w8 := (hf.trans f0 (fun _ _ f => f.elim)).trans g8 (fun _ _ e => e)
              have de := (f8.cell (p := ⟨ge, j, none⟩) hlge (fun e => by simp at e; omega)).trans hce
              clear hrd0
              go_wp2
              go_roundw
              case rel => exact ⟨j + 1, a8, c8, _, by omega, by go_num, hrd8, HC2.out, f8⟩
              case measure => simp [intOf]; omega
            · have HET : Hid ((numS st (ss : Int)).2.1 = 10) := het
              clear het
              have ipt : ¬ (((outs (K.take (j + 1))).length : Nat) : Int) ≤ (T : Int) := by omega
              go_wp2_with fail
              refine (rnum_all ((ss : Int)) rb a c st _ hrd0).mono ?_
              rw [HET.out]
              rintro e w8 ⟨rfl, a8, c8, hrd8, g8, n8⟩
              have f8 : Fr (fun k => k = rb) w6 w8 := (hf.trans f0 (fun _ _ f => f.elim)).trans g8 (fun _ _ e => e)
              have de := (f8.cell (p := ⟨ge, j, none⟩) hlge (fun e => by simp at e; omega)).trans hce
              clear hrd0
              go_wp2
              go_roundw
              case rel => exact ⟨j + 1, a8, c8, _, by omega, by go_num, hrd8, HC2.out, f8⟩
              case measure => simp [intOf]; omega
        · have f0x := f06.above hf (fun i hi => by omega)
          clear hrd hcut
          go_wp2_with fail
          refine (speaks_any _).mono ?_
          rintro e w9 ⟨rfl, f9⟩
          go_wp2
          go_ret
          exact ⟨rfl, f0x.false_trans f9⟩

set_option maxRecDepth 100000 in
theorem lifted (os : Os) (started : os.Started) (H : Type) (enc : TypeId × Value → H) (F : Stop.Interp) :
    ReturnsInHanded {} Try.checked os 8 .any ((Rows.OpenSpec.upto Rows.wireShortSpec).pre6 enc Try.prog Try.f8 Rows.wireShortUptoRow.domain false) (((Rows.OpenSpec.upto Rows.wireShortSpec).at F).post enc Try.prog Try.f8 false true false false) := by
  refine returnsInHanded_of_cond (C := Try.checked) (s := Rows.OpenSpec.upto Rows.wireShortSpec) (k := Rows.uptoSmall) rfl own started (by kernel_rfl) Try.func8
    (OpenSpec.witness (enc := enc) (C := Try.checked) (s := Rows.OpenSpec.upto Rows.wireShortSpec) (k := Rows.uptoSmall) rfl false ⟨#[], #[.slice none 0 0, .int .i64 0], []⟩ 8 (by kernel_rfl) (by kernel_rfl) (by kernel_rfl)
      (x := ([.nil, .lit (.int .i64 0)], [], [])) (by kernel_rfl) rfl (by kernel_rfl)) ?_
  intro W base args ds gs before hval0 hW hcnd hk0 _
  have hbulk : Rows.uptoBulkAll (ds ++ gs) ≤ 1048576 := of_decide_eq_true hk0
  clear hk0
  have hval : ∀ (j : Nat) t v, Try.f8.params[j]? = some t → args[j]? = some v → Value.okWide Try.prog W .any base t v := hval0
  have hW' := hW
  obtain ⟨p, q, hA0, hV, rfl, hfz, hnd⟩ := hW
  have hA : DataW.TrodAll enc Try.prog W 0 (fun _ => true) true Try.f8.params.toList args.toList ds p := hA0
  rw [Try.params8] at hA hval
  obtain ⟨v0, vs0, d0, ds0, p0, q0, hargs, rfl, rfl, h0, r0⟩ := trodAll_cons hA
  obtain ⟨v1, vs1, d1, ds1, p1, q1, rfl, rfl, rfl, h1, r1⟩ := trodAll_cons r0
  obtain ⟨rfl, rfl, rfl⟩ := trodAll_nil r1
  obtain rfl : args = #[v0, v1] := by cases args; simp_all
  obtain ⟨rfl, rfl⟩ := trodVars_none hV
  obtain ⟨a0, len0, cap0, rfl⟩ := okWide_slice Try.underlying22 (hval 0 22 v0 rfl rfl)
  have k0 := h0
  have lt0 : ∀ x ∈ p0, x.block < W.heap.size := by obtain ⟨m, hm⟩ := k0; exact DataW.trod_lt m _ _ _ hm
  obtain ⟨its0, hl0, z0, hr0⟩ : ∃ its : List It, len0 = its.length ∧ wt its ≤ 1048576 ∧ Items W a0 cap0 its := by
    obtain ⟨fuel, hf⟩ := h0
    obtain ⟨its, sp, e1, e2, e3⟩ := items_open hf
    exact ⟨its, e1, wt_bound e3 (Nat.le_trans (bulk_part (l := [d0, d1] ++ []) (j := 0) rfl) hbulk), e2⟩
  obtain ⟨a1, rfl, rfl, rfl, w1⟩ := open_int Try.underlying3 (hval 1 3 v1 rfl rfl) h1
  clear hA0 hval0
  refine (walk W a0 len0 cap0 its0 hl0 z0 hr0 a1 w1).mono fun e W' ⟨he, fr⟩ => ?_
  have bel : Below W.heap.size W W' := fr.below (Nat.le_refl _) (fun _ f => f.elim)
  subst he
  exact ⟨_, rfl, _, _, _, [], _, [], hW', trodAll_mk1 (shut_bool Try.underlying4 _), (trodAll_cons_mk (Below.trod laidOut (by kernel_rfl) (of_decide_eq_true (by kernel_rfl)) k0 bel lt0) (trodAll_cons_mk (shut_int Try.underlying3 w1) trodAll_mk0)), rfl, bel.frame _, fun h => by cases h⟩

theorem proved : Rows.WireShortUptoSaid :=
  OpenClaim.holds_of_cond 8 Try.f8 rfl rfl rfl rfl rfl rfl rfl ⟨rfl, rfl, rfl, rfl, rfl⟩ rfl rfl rfl rfl rfl (by kernel_rfl) Try.func8 (by kernel_rfl)
    (of_decide_eq_true (by kernel_rfl)) (by unfold Func.isWrapper; first | (rw [if_pos (by decide +kernel)]; kernel_rfl) | (rw [if_neg (by decide +kernel)]; exact ⟨rfl, rfl⟩))
    (fun os started H enc _ F => lifted os started H enc F)
end Go.Proofs.Ytnnaaliadbihkaa.wireShort
namespace Go.Proofs.Ytnnaaliadbihkaa
theorem wireShort_holds : Rows.WireShortUptoSaid := wireShort.proved
#print axioms wireShort_holds
end Go.Proofs.Ytnnaaliadbihkaa
