/- Where what comes in is of bulk at most 1048576, latticelaw01.WireBack answers true and leaves its argument as it was: what was written is read, in its order, and nothing is left (1.4). -/
import Derived.Test.YtnnaaliadbihkaaArgs
import Derived.Test.YtnnaaliadbihkaaBulk2
import Derived.Test.YtnnaaliadbihkaaKept2
import Derived.Test.YtnnaaliadbihkaaBulk
import Derived.JoinedCond
namespace Go.Proofs.Ytnnaaliadbihkaa.wireBack
open Go.ChangeShapes Go.WideShapes Go.ChangeAt Go.RowKit
open Go.ChangeMaps (open_string shut_string)
set_option linter.unusedVariables false

theorem own : ownKnob Try.prog.godebug = none := by kernel_rfl
theorem laidOut : laidOutB Try.prog = true := by kernel_rfl
theorem bytes8 : Try.prog.bytesOf 5 = 1 := by kernel_rfl

set_option maxRecDepth 100000 in
set_option maxHeartbeats 4000000 in
theorem walk (w : World) (a0 : Option Addr) (len0 cap0 : Nat) (its : List It) (hl0 : len0 = its.length) (z0 : wt its ≤ 1048576) (hr0 : Items w a0 cap0 its) :
    Calls Try.prog 5 #[.slice a0 len0 cap0] w fun e w' => e = .returned (.bool true) ∧ Fr (fun _ => False) w w' := by
  obtain ⟨i7, hi7, hy0, hy1, hy2⟩ := info_parts info27
  subst hl0
  have e0 := hr0.le
  have e1 := hr0.max
  have hnb := wt_count its
  have f1 : Fr (fun _ => False) w (w.alloc (.cells #[.slice none 0 0] 60)) := (Fr.refl (fun _ => False) w).alloc _
  go_enter Try.func5, Try.ntmps5
  go_wp2_with fail
  refine (new_any _).mono ?_
  rintro e w1 ⟨rfl, rfl⟩
  go_wp2
  go_loopw [4, 19] (fun v i wr => ∃ (k : Nat) (av : Option Addr) (cv : Nat) (vw : Value), k ≤ its.length ∧ i = .int .i64 k ∧ v = .slice av (kept (its.take k)).length cv ∧ wr.ownsRow (w.heap.size + 1) 27 3 (.slice av (kept (its.take k)).length cv) (kept (its.take k)).length (itsCells (kept (its.take k))) ∧ Wr wr (w.heap.size + 1) w.heap.size vw (outs (its.take k)) ∧ (∀ j, (Value.slice av (kept (its.take k)).length cv).ownBlock = some j → vw.ownBlock ≠ some j) ∧ Fr (fun _ => False) w wr)
    (fun _ i _ => its.length - (intOf i).toNat)
  case atStart => exact ⟨0, none, 0, .slice none 0 0, by omega, rfl, rfl, World.ownsRow_nil _ _ _ _, Wr.new w, (fun j e => by simp [Value.ownBlock] at e), f1⟩
  case round =>
    obtain ⟨k, av, cv, vw, hk, rfl, rfl, hown, hwr, hdis, hf⟩ := hrel
    by_cases hlt : k < its.length
    · obtain ⟨b, off, rfl, hb, hc⟩ := hr0.at_.resolve_left (fun h => by rw [h] at hlt; simp at hlt)
      obtain ⟨c0, c1, c2⟩ := hc k hlt
      clear hc
      have d0 := (hf.cell (p := ⟨b, off + k * 3, none⟩) hb (fun f => f)).trans c0
      have d1 := (hf.cell (p := ⟨b, off + k * 3 + 1, none⟩) hb (fun f => f)).trans c1
      have d2 := (hf.cell (p := ⟨b, off + k * 3 + 2, none⟩) hb (fun f => f)).trans c2
      clear c0 c1 c2
      have hwf := hr0.wf k hlt
      have hws := wt_part its k hlt
      have hol := outs_len (its.take k)
      have hkl := kept_len (its.take k)
      have HO : Hid (outs (its.take (k + 1)) = outs (its.take k) ++ outIt (its.getD k itD)) := outs_succ its k hlt
      have HKY : Hid (okIt (its.getD k itD) = true → kept (its.take (k + 1)) = kept (its.take k) ++ [its.getD k itD]) := kept_yes its k hlt
      have HKN : Hid (okIt (its.getD k itD) = false → kept (its.take (k + 1)) = kept (its.take k)) := kept_no its k hlt
      obtain ⟨x, hx⟩ : ∃ x, x = its.getD k itD := ⟨_, rfl⟩
      rw [← hx] at d0 d1 d2 hwf hws HO HKY HKN
      clear hx
      obtain ⟨n, size, s⟩ := x
      obtain ⟨M, hM⟩ : ∃ M, M = outs (its.take k) := ⟨_, rfl⟩
      rw [← hM] at hwr hol HO
      clear hM
      obtain ⟨K, hK⟩ : ∃ K, K = kept (its.take k) := ⟨_, rfl⟩
      rw [← hK] at hown hdis HKY HKN hkl ⊢
      clear hK
      simp only at d0 d1 d2 hws
      obtain ⟨hwf0, hwf1⟩ := hwf
      simp only at hwf0 hwf1
      have hKl : K.length ≤ 1048576 := by have : (its.take k).length ≤ k := List.length_take_le _ _; omega
      have hM : M.length + s.size + 65600 ≤ 140737488355328 := by omega
      clear hws hol hkl
      have HD : Hid (∀ j, (Value.slice av K.length cv).ownBlock = some j → vw.ownBlock ≠ some j) := hdis
      clear hdis
      have zr := hf.size
      have lwb := lt_of_block hwr.box
      by_cases hsz : size = 0
      · subst hsz
        have f0 : Fr (fun _ => False) wr (wr.alloc (.cells #[.int .i64 n, .int .i64 0, .string s] 27)) := (Fr.refl (fun _ => False) wr).alloc _
        have hw0 := hwr.fr f0 (fun f => f) (fun _ _ f => f)
        by_cases hlong : 65535 < s.size
        · have hok : okIt (n, 0, s) = false := by simp [okIt]; omega
          have HO2 : Hid (outs (its.take (k + 1)) = M) := by
            have := HO.out
            rw [outIt_bad hok, List.append_nil] at this
            exact this
          have HK2 : Hid (kept (its.take (k + 1)) = K) := HKN.out hok
          clear hok
          go_wp2_with fail
          refine (text_long _ s hlong _).mono ?_
          rintro e w2 ⟨rfl, rfl⟩
          go_wp2
          go_roundw
          case rel =>
            refine ⟨k + 1, av, cv, vw, by omega, by go_num, ?_⟩
            rw [HO2.out, HK2.out]
            exact ⟨rfl, hown.alloc _, hw0, HD.out, hf.false_trans f0⟩
          case measure => simp [intOf]; omega
        · have hs2 : s.size ≤ 65535 := by omega
          have hok : okIt (n, 0, s) = true := by simp [okIt]; omega
          have hoi : outIt (n, 0, s) = le 2 s.size ++ bsOf s := by unfold outIt; rw [if_pos rfl, if_pos (by simpa using hs2)]
          have HK2 : Hid (kept (its.take (k + 1)) = K ++ [(n, 0, s)]) := HKY.out hok
          have HO2 : Hid (outs (its.take (k + 1)) = M ++ (le 2 s.size ++ bsOf s)) := by
            have := HO.out
            rw [hoi] at this
            exact this
          clear hok hoi
          go_wp2_with fail
          refine (text_ok s hs2 (w.heap.size + 1) w.heap.size vw M _ hw0 (by simp; omega) (by omega)).mono ?_
          rintro e w2 ⟨rfl, vw2, hw2, hf2, hv2⟩
          rw [List.append_assoc] at hw2
          have cb : w2.heap[wr.heap.size]? = some (.cells #[.int .i64 n, .int .i64 0, .string s] 27 (0, 0)) := by
            rw [hf2.block wr.heap.size (by simp) (fun h => by have := hwr.lt h; omega)]; exact heap_alloc_new wr _
          have cc0 : w2.cell? ⟨wr.heap.size, 0, none⟩ = some (.int .i64 n) := by simp [World.cell?, cb]
          have cc1 : w2.cell? ⟨wr.heap.size, 1, none⟩ = some (.int .i64 0) := by simp [World.cell?, cb]
          have cc2 : w2.cell? ⟨wr.heap.size, 2, none⟩ = some (.string s) := by simp [World.cell?, cb]
          clear cb
          have z2 := hf2.size
          have hown3 := row_kept hown HD.out f0 hf2 ((Fr.refl (fun _ => False) w2).alloc (.cells #[.int .i64 n, .int .i64 0, .string s] 27))
          go_wp2_with (at_builtin; refine wpList_append_lies _ rfl _ _ 22 rfl (w.heap.size + 1) 27 i7 _ 3 32 Try.underlying22 hi7 hy0 hy1 hy2 rfl (by omega) (.slice av K.length cv) K.length (itsCells K) rfl hown3 ⟨w2.heap.size, 0, none⟩ 1 1 [.int .i64 n, .int .i64 0, .string s] rfl rfl (World.news_of_block (cs := #[.int .i64 n, .int .i64 0, .string s]) (t := 27) (fr := (0, 0)) (heap_alloc_new w2 _)) (by simp [Value.oneCell']) (by omega) (by unfold maxLen; omega) (by omega) (by simp at *; omega) (w2.heap.size + 1) (by simp) ?_; intro gg cap w4 hown4 hgrow4 hat4 hlt4)
          go_roundw
          case rel =>
            have hat5 : (Value.slice (some ⟨gg, 0, none⟩) (K.length + 1) cap).ownBlock = (Value.slice av K.length cv).ownBlock ∨ (Value.slice (some ⟨gg, 0, none⟩) (K.length + 1) cap).ownBlock = some (w2.alloc (.cells #[.int .i64 n, .int .i64 0, .string s] 27)).heap.size := by
              rcases hat4 with h | h
              · exact .inl h.symm
              · exact .inr (by rw [h]; simp [Value.ownBlock])
            obtain ⟨S1, S2, S3⟩ := rk_step hf f0 hwr hown HD.out hw2 hf2 hv2 ((Fr.refl (fun _ => False) w2).alloc _) hgrow4 hat5
            refine ⟨k + 1, some ⟨gg, 0, none⟩, cap, vw2, by omega, by go_num, ?_⟩
            rw [HK2.out, HO2.out, List.length_append, itsCells_snoc]
            exact ⟨rfl, hown4, S1, S2, S3⟩
          case measure => simp [intOf]; omega
      · have HZ : Hid (¬ size = 0) := hsz
        have hsz0 : (size == 0) = false := by simpa using hsz
        have hsz1 : (size != 0) = true := by simpa using hsz
        clear hsz
        have f0 : Fr (fun _ => False) wr (wr.alloc (.cells #[.int .i64 n, .int .i64 size, .string s] 27)) := (Fr.refl (fun _ => False) wr).alloc _
        have hw0 := hwr.fr f0 (fun f => f) (fun _ _ f => f)
        cases hfb : fitB n size
        · have hok : okIt (n, size, s) = false := by unfold okIt; rw [if_neg HZ.out]; exact hfb
          have HO2 : Hid (outs (its.take (k + 1)) = M) := by
            have := HO.out
            rw [outIt_bad hok, List.append_nil] at this
            exact this
          have HK2 : Hid (kept (its.take (k + 1)) = K) := HKN.out hok
          have HF : Hid (fitB n size = false) := hfb
          clear hfb hok
          go_wp2_with fail
          refine (wnum_no _ n size HF.out hwf0 _).mono ?_
          rintro e w2 ⟨rfl, rfl⟩
          go_wp2
          go_roundw
          case rel =>
            refine ⟨k + 1, av, cv, vw, by omega, by go_num, ?_⟩
            rw [HO2.out, HK2.out]
            exact ⟨rfl, hown.alloc _, hw0, HD.out, hf.false_trans f0⟩
          case measure => simp [intOf]; omega
        · obtain ⟨nn, rfl⟩ := Int.eq_ofNat_of_zero_le (a := n) (fitB_fit hfb).1
          obtain ⟨ss, rfl⟩ := Int.eq_ofNat_of_zero_le (a := size) (by have := fitB_sized hfb; omega)
          have hok : okIt ((nn : Int), (ss : Int), s) = true := by unfold okIt; rw [if_neg HZ.out]; exact hfb
          have hoi : outIt ((nn : Int), (ss : Int), s) = le ss nn := by unfold outIt; rw [if_neg HZ.out, if_pos (by simp [hfb])]; simp
          have HK2 : Hid (kept (its.take (k + 1)) = K ++ [((nn : Int), (ss : Int), s)]) := HKY.out hok
          have HO2 : Hid (outs (its.take (k + 1)) = M ++ le ss nn) := by
            have := HO.out
            rw [hoi] at this
            exact this
          have HF : Hid (fitB (nn : Int) (ss : Int) = true) := hfb
          clear hfb hok hoi
          go_wp2_with fail
          refine (wnum_yes nn ss (fitB_fit HF.out) (w.heap.size + 1) w.heap.size vw M _ hw0 (by simp; omega) (by omega)).mono ?_
          rintro e w2 ⟨rfl, vw2, hw2, hf2, hv2⟩
          have cb : w2.heap[wr.heap.size]? = some (.cells #[.int .i64 nn, .int .i64 ss, .string s] 27 (0, 0)) := by
            rw [hf2.block wr.heap.size (by simp) (fun h => by have := hwr.lt h; omega)]; exact heap_alloc_new wr _
          have cc0 : w2.cell? ⟨wr.heap.size, 0, none⟩ = some (.int .i64 nn) := by simp [World.cell?, cb]
          have cc1 : w2.cell? ⟨wr.heap.size, 1, none⟩ = some (.int .i64 ss) := by simp [World.cell?, cb]
          have cc2 : w2.cell? ⟨wr.heap.size, 2, none⟩ = some (.string s) := by simp [World.cell?, cb]
          clear cb
          have z2 := hf2.size
          have hown3 := row_kept hown HD.out f0 hf2 ((Fr.refl (fun _ => False) w2).alloc (.cells #[.int .i64 nn, .int .i64 ss, .string s] 27))
          go_wp2_with (at_builtin; refine wpList_append_lies _ rfl _ _ 22 rfl (w.heap.size + 1) 27 i7 _ 3 32 Try.underlying22 hi7 hy0 hy1 hy2 rfl (by omega) (.slice av K.length cv) K.length (itsCells K) rfl hown3 ⟨w2.heap.size, 0, none⟩ 1 1 [.int .i64 nn, .int .i64 ss, .string s] rfl rfl (World.news_of_block (cs := #[.int .i64 nn, .int .i64 ss, .string s]) (t := 27) (fr := (0, 0)) (heap_alloc_new w2 _)) (by simp [Value.oneCell']) (by omega) (by unfold maxLen; omega) (by omega) (by simp at *; omega) (w2.heap.size + 1) (by simp) ?_; intro gg cap w4 hown4 hgrow4 hat4 hlt4)
          go_roundw
          case rel =>
            have hat5 : (Value.slice (some ⟨gg, 0, none⟩) (K.length + 1) cap).ownBlock = (Value.slice av K.length cv).ownBlock ∨ (Value.slice (some ⟨gg, 0, none⟩) (K.length + 1) cap).ownBlock = some (w2.alloc (.cells #[.int .i64 nn, .int .i64 ss, .string s] 27)).heap.size := by
              rcases hat4 with h | h
              · exact .inl h.symm
              · exact .inr (by rw [h]; simp [Value.ownBlock])
            obtain ⟨S1, S2, S3⟩ := rk_step hf f0 hwr hown HD.out hw2 hf2 hv2 ((Fr.refl (fun _ => False) w2).alloc _) hgrow4 hat5
            refine ⟨k + 1, some ⟨gg, 0, none⟩, cap, vw2, by omega, by go_num, ?_⟩
            rw [HK2.out, HO2.out, List.length_append, itsCells_snoc]
            exact ⟨rfl, hown4, S1, S2, S3⟩
          case measure => simp [intOf]; omega
    · have ek : its.take k = its := List.take_of_length_le (by omega)
      rw [ek] at hown hwr hdis ⊢
      have hoc := outs_octs its
      have hol : (outs its).length ≤ 2097152 := by have := outs_len its; omega
      have hkl := kept_len its
      have HOK : Hid (outs (kept its) = outs its) := outs_kept its
      have HKO : Hid (∀ j, j < (kept its).length → okIt ((kept its).getD j itD) = true) := kept_ok its
      have HKW : Hid (∀ j, j < (kept its).length → itWf ((kept its).getD j itD)) := kept_wf hr0.wf
      obtain ⟨M, hM⟩ : ∃ M, M = outs its := ⟨_, rfl⟩
      obtain ⟨K, hK⟩ : ∃ K, K = kept its := ⟨_, rfl⟩
      rw [← hM] at hwr hoc hol HOK
      rw [← hK] at hown hdis hkl HOK HKO HKW ⊢
      clear hM hK ek hdis hr0
      go_wp2_with fail
      refine (bytes_any (w.heap.size + 1) w.heap.size vw M hoc (by omega) _ hwr).mono ?_
      rintro e w5 ⟨v5, rfl, m5⟩
      obtain ⟨a5, c5, hv5, hr5⟩ := m5.own.row hoc (by omega)
      rw [hv5]
      clear hv5
      go_wp2_with fail
      refine (of_any a5 _ c5 M rfl _ hr5).mono ?_
      rintro e w6 ⟨rb, a6, c6, rfl, hrd6, f56, hrb, ha6⟩
      have hown6 := owns_fr (owns_fr hown m5.fr (fun _ _ f => f)) f56 (fun _ _ f => f)
      have hgl : ∀ j, (Value.slice av K.length cv).ownBlock = some j → j < rb := fun j hj => by
        have := (hown.lt j hj).2; have := m5.fr.size; omega
      have f06 := (hf.false_trans m5.fr).false_trans f56
      have zrb : w.heap.size ≤ rb := by have := hf.size; have := m5.fr.size; omega
      rw [← HOK.out] at hrd6
      clear hown hwr m5 hr5 f56 ha6 hf
      go_wp2
      go_loopw [59] (fun i wx => ∃ (j : Nat) (a : Option Addr) (c : Nat), j ≤ K.length ∧ i = .int .i64 j ∧ Rd wx rb a c (outs (K.drop j)) 0 ∧ Fr (fun k => k = rb) w6 wx)
        (fun i _ => K.length - (intOf i).toNat)
      case atStart => exact ⟨0, a6, c6, by omega, rfl, hrd6, Fr.refl _ _⟩
      case round =>
        obtain ⟨j, a, c, hj, rfl, hrd, hf⟩ := hrel
        by_cases hlt2 : j < K.length
        · obtain ⟨g, cg, he, hge, hlg⟩ := hown6.form (by omega)
          simp only [Value.slice.injEq, true_and] at he
          obtain ⟨rfl, rfl⟩ := he
          have hgr := hgl g rfl
          obtain ⟨c0, c1, c2⟩ := kept_cells hown6 rfl j hlt2
          have d0 := (hf.cell (p := ⟨g, j * 3, none⟩) hlg (fun e => by simp at e; omega)).trans c0
          have d1 := (hf.cell (p := ⟨g, j * 3 + 1, none⟩) hlg (fun e => by simp at e; omega)).trans c1
          have d2 := (hf.cell (p := ⟨g, j * 3 + 2, none⟩) hlg (fun e => by simp at e; omega)).trans c2
          clear c0 c1 c2
          have hok := HKO.out j hlt2
          have hwf := HKW.out j hlt2
          have hod := outs_drop K j hlt2
          obtain ⟨x, hx⟩ : ∃ x, x = K.getD j itD := ⟨_, rfl⟩
          rw [← hx] at d0 d1 d2 hok hwf hod
          clear hx
          obtain ⟨n, size, s⟩ := x
          simp only at d0 d1 d2
          obtain ⟨rest, hrest⟩ : ∃ r, r = outs (K.drop (j + 1)) := ⟨_, rfl⟩
          rw [← hrest] at hod
          have HRE : Hid (outs (K.drop (j + 1)) = rest) := hrest.symm
          rw [hod] at hrd
          clear hrest hod
          obtain ⟨hwf0, hwf1⟩ := hwf
          simp only at hwf0 hwf1
          have zwx : rb < wr.heap.size := lt_of_block hrd.box
          by_cases hsz : size = 0
          · subst hsz
            have hs2 : s.size ≤ 65535 := by simpa [okIt] using hok
            have hoi : outIt (n, 0, s) = le 2 s.size ++ bsOf s := by unfold outIt; rw [if_pos rfl, if_pos (by simpa using hs2)]
            rw [hoi] at hrd
            clear hoi hok
            have f0 : Fr (fun _ => False) wr (wr.alloc (.cells #[.int .i64 n, .int .i64 0, .string s] 27)) := (Fr.refl (fun _ => False) wr).alloc _
            have hrd0 := hrd.keep f0 (fun f => f) (.inr (fun _ _ _ _ f => f))
            clear hrd
            go_wp2_with fail
            refine (rtext_all 65535 rb a c (le 2 s.size ++ bsOf s ++ rest, 0) _ hrd0).mono ?_
            rw [textS_back s hs2 rest, strOf_bsOf]
            rintro e w8 ⟨rfl, a8, c8, hrd8, g8, n8⟩
            have cb : w8.heap[wr.heap.size]? = some (.cells #[.int .i64 n, .int .i64 0, .string s] 27 (0, 0)) := by
              rw [g8.block wr.heap.size (by simp) (by omega)]; exact heap_alloc_new wr _
            have cc2 : w8.cell? ⟨wr.heap.size, 2, none⟩ = some (.string s) := by simp [World.cell?, cb]
            clear cb hrd0
            have hrd9 : Rd w8 rb a8 c8 (outs (K.drop (j + 1))) 0 := by rw [HRE.out]; exact hrd8
            have f8 : Fr (fun k => k = rb) w6 w8 := (hf.trans f0 (fun _ _ f => f.elim)).trans g8 (fun _ _ e => e)
            go_wp2
            go_roundw
            case rel => exact ⟨j + 1, a8, c8, by omega, by go_num, hrd9, f8⟩
            case measure => simp [intOf]; omega
          · have HZ : Hid (¬ size = 0) := hsz
            have hsz0 : (size == 0) = false := by simpa using hsz
            clear hsz
            have hfb : fitB n size = true := by unfold okIt at hok; rw [if_neg HZ.out] at hok; exact hok
            obtain ⟨nn, rfl⟩ := Int.eq_ofNat_of_zero_le (a := n) (fitB_fit hfb).1
            obtain ⟨ss, rfl⟩ := Int.eq_ofNat_of_zero_le (a := size) (by have := fitB_sized hfb; omega)
            have hoi : outIt ((nn : Int), (ss : Int), s) = le ss nn := by unfold outIt; rw [if_neg HZ.out, if_pos (by simp [hfb])]; simp
            rw [hoi] at hrd
            have HNB : Hid (numS (le ss nn ++ rest, 0) (ss : Int) = ((nn : Int), 0, (rest, 0))) := numS_back nn ss hfb hwf0.2 rest
            clear hoi hok hfb
            have f0 : Fr (fun _ => False) wr (wr.alloc (.cells #[.int .i64 nn, .int .i64 ss, .string s] 27)) := (Fr.refl (fun _ => False) wr).alloc _
            have hrd0 := hrd.keep f0 (fun f => f) (.inr (fun _ _ _ _ f => f))
            clear hrd
            go_wp2_with fail
            refine (rnum_all ss rb a c (le ss nn ++ rest, 0) _ hrd0).mono ?_
            rw [HNB.out]
            rintro e w8 ⟨rfl, a8, c8, hrd8, g8, n8⟩
            have cb : w8.heap[wr.heap.size]? = some (.cells #[.int .i64 nn, .int .i64 ss, .string s] 27 (0, 0)) := by
              rw [g8.block wr.heap.size (by simp) (by omega)]; exact heap_alloc_new wr _
            have cc0 : w8.cell? ⟨wr.heap.size, 0, none⟩ = some (.int .i64 nn) := by simp [World.cell?, cb]
            clear cb hrd0
            have hrd9 : Rd w8 rb a8 c8 (outs (K.drop (j + 1))) 0 := by rw [HRE.out]; exact hrd8
            have f8 : Fr (fun k => k = rb) w6 w8 := (hf.trans f0 (fun _ _ f => f.elim)).trans g8 (fun _ _ e => e)
            go_wp2
            go_roundw
            case rel => exact ⟨j + 1, a8, c8, by omega, by go_num, hrd9, f8⟩
            case measure => simp [intOf]; omega
        · have ed : K.drop j = [] := List.drop_eq_nil_of_le (by omega)
          rw [ed] at hrd
          have hrd0 : Rd wr rb a c [] 0 := hrd
          have f0x := f06.above hf (fun i hi => by omega)
          clear hrd ed
          go_wp2_with fail
          refine (end_any rb a c [] 0 _ hrd0).mono ?_
          rw [show endOf [] 0 = 0 from rfl]
          rintro e w8 ⟨rfl, rfl⟩
          go_wp2_with fail
          refine (left_any rb a c [] 0 _ hrd0).mono ?_
          rintro e w8 ⟨rfl, rfl⟩
          go_wp2_with fail
          refine (speaks_any _).mono ?_
          rintro e w9 ⟨rfl, f9⟩
          go_wp2
          go_ret
          exact ⟨rfl, f0x.false_trans f9⟩

set_option maxRecDepth 100000 in
theorem lifted (os : Os) (started : os.Started) (H : Type) (enc : TypeId × Value → H) (F : Stop.Interp) :
    ReturnsInHanded {} Try.checked os 5 .any ((Rows.OpenSpec.upto Rows.wireBackSpec).pre6 enc Try.prog Try.f5 Rows.wireBackUptoRow.domain false) (((Rows.OpenSpec.upto Rows.wireBackSpec).at F).post enc Try.prog Try.f5 false true false false) := by
  refine returnsInHanded_of_cond (C := Try.checked) (s := Rows.OpenSpec.upto Rows.wireBackSpec) (k := Rows.uptoSmall) rfl own started (by kernel_rfl) Try.func5
    (OpenSpec.witness (enc := enc) (C := Try.checked) (s := Rows.OpenSpec.upto Rows.wireBackSpec) (k := Rows.uptoSmall) rfl false ⟨#[], #[.slice none 0 0], []⟩ 8 (by kernel_rfl) (by kernel_rfl) (by kernel_rfl)
      (x := ([.nil], [], [])) (by kernel_rfl) rfl (by kernel_rfl)) ?_
  intro W base args ds gs before hval0 hW hcnd hk0 _
  have hbulk : Rows.uptoBulkAll (ds ++ gs) ≤ 1048576 := of_decide_eq_true hk0
  clear hk0
  have hval : ∀ (j : Nat) t v, Try.f5.params[j]? = some t → args[j]? = some v → Value.okWide Try.prog W .any base t v := hval0
  have hW' := hW
  obtain ⟨p, q, hA0, hV, rfl, hfz, hnd⟩ := hW
  have hA : DataW.TrodAll enc Try.prog W 0 (fun _ => true) true Try.f5.params.toList args.toList ds p := hA0
  rw [Try.params5] at hA hval
  obtain ⟨v0, vs0, d0, ds0, p0, q0, hargs, rfl, rfl, h0, r0⟩ := trodAll_cons hA
  obtain ⟨rfl, rfl, rfl⟩ := trodAll_nil r0
  obtain rfl : args = #[v0] := by cases args; simp_all
  obtain ⟨rfl, rfl⟩ := trodVars_none hV
  obtain ⟨a0, len0, cap0, rfl⟩ := okWide_slice Try.underlying22 (hval 0 22 v0 rfl rfl)
  have k0 := h0
  have lt0 : ∀ x ∈ p0, x.block < W.heap.size := by obtain ⟨m, hm⟩ := k0; exact DataW.trod_lt m _ _ _ hm
  obtain ⟨its0, hl0, z0, hr0⟩ : ∃ its : List It, len0 = its.length ∧ wt its ≤ 1048576 ∧ Items W a0 cap0 its := by
    obtain ⟨fuel, hf⟩ := h0
    obtain ⟨its, sp, e1, e2, e3⟩ := items_open hf
    exact ⟨its, e1, wt_bound e3 (Nat.le_trans (bulk_part (l := [d0] ++ []) (j := 0) rfl) hbulk), e2⟩
  clear hA0 hval0
  refine (walk W a0 len0 cap0 its0 hl0 z0 hr0).mono fun e W' ⟨he, fr⟩ => ?_
  have bel : Below W.heap.size W W' := fr.below (Nat.le_refl _) (fun _ f => f.elim)
  subst he
  exact ⟨_, rfl, _, _, _, [], _, [], hW', trodAll_mk1 (shut_bool Try.underlying4 _), (trodAll_cons_mk (Below.trod laidOut (by kernel_rfl) (of_decide_eq_true (by kernel_rfl)) k0 bel lt0) trodAll_mk0), rfl, bel.frame _, fun h => by cases h⟩

theorem proved : Rows.WireBackUptoSaid :=
  OpenClaim.holds_of_cond 5 Try.f5 rfl rfl rfl rfl rfl rfl rfl ⟨rfl, rfl, rfl, rfl, rfl⟩ rfl rfl rfl rfl rfl (by kernel_rfl) Try.func5 (by kernel_rfl)
    (of_decide_eq_true (by kernel_rfl)) (by unfold Func.isWrapper; first | (rw [if_pos (by decide +kernel)]; kernel_rfl) | (rw [if_neg (by decide +kernel)]; exact ⟨rfl, rfl⟩))
    (fun os started H enc _ F => lifted os started H enc F)
end Go.Proofs.Ytnnaaliadbihkaa.wireBack
namespace Go.Proofs.Ytnnaaliadbihkaa
theorem wireBack_holds : Rows.WireBackUptoSaid := wireBack.proved
#print axioms wireBack_holds
end Go.Proofs.Ytnnaaliadbihkaa
