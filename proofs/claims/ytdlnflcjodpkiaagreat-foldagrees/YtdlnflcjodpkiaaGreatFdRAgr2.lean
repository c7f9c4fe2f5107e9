
/- The document's own Agrees. -/
import Derived.Test.YtdlnflcjodpkiaaGreatFdRAgr
import Derived.Test.YtdlnflcjodpkiaaGreatFdPlc
namespace Go.Proofs.YtdlnflcjodpkiaaGreat
open Go.RowKit Go.Shelf

theorem hist_hist (ls : List Rec) : hist (hist ls) = hist ls := by unfold hist; rw [List.filter_filter]; simp
set_option maxRecDepth 100000 in
set_option maxHeartbeats 4000000 in
theorem ragrees_any (a : Option Addr) (n c : Nat) (ls : List Rec) (hn : n = ls.length) (hf : n ≤ 100000) (o : Opn) (hok : o.key.size ≤ maxLen) (hov : o.val.size ≤ maxLen) (x : Rs) (a2 : Option Addr) (n2 c2 : Nat) (hn2 : n2 = x.ents.length) (f : Int) (w : World) (h : Recs w a c ls) (r : Ens w a2 c2 x.ents) :
    Calls Tryz.prog 30 #[.slice a n c, .agg #[.int .i64 o.kind, .string o.key, .string o.val], .agg #[.bool x.found, .string x.val, .slice a2 n2 c2], .int .i64 f] w fun e w' => e = .returned (plV (agr (hist ls) o x f)) ∧ Fr (fun _ => False) w w' := by
  obtain ⟨B0, B1⟩ := two_new w (.cells #[.int .i64 o.kind, .string o.key, .string o.val] 35) (.cells #[.bool x.found, .string x.val, .slice a2 n2 c2] 37)
  have f0 : Fr (fun _ => False) w ((w.alloc (.cells #[.int .i64 o.kind, .string o.key, .string o.val] 35)).alloc (.cells #[.bool x.found, .string x.val, .slice a2 n2 c2] 37)) := ((Fr.refl _ _).alloc _).alloc _
  have hh := rhistory_any a n c ls hn (by omega) _ (h.same f0)
  have hlen : (hist ls).length ≤ 100000 := by have := hist_len ls; omega
  have HBE : Hid (∀ (a' : Option Addr) (c' q : Nat) (W : World), q ≤ (hist ls).length → Recs W a' c' (hist ls) → Calls Tryz.prog 15 #[.slice a' (hist ls).length c', .int .i64 q] W fun e w' => BhOut W (beh ((hist ls).take q)) 0 e w') := fun a' c' q W hq hr => by
    have := rbehind_ok a' (hist ls).length c' (hist ls) rfl hlen q (by rw [hist_hist]; exact hq) W hr
    rwa [hist_hist] at this
  have HBS : Hid (∀ q, ∀ e ∈ beh ((hist ls).take q), e.1.size ≤ maxLen) := fun q => beh_sml (fun r hr => beh_key (List.mem_of_mem_take hr))
  generalize hist ls = hs at *
  have HGV : Hid (∀ (q : Nat) (a' : Option Addr) (c' m : Nat) (W : World), m = (beh (hs.take q)).length → q ≤ hs.length → Ens W a' c' (beh (hs.take q)) → Calls Tryz.prog 53 #[.slice a' m c', .agg #[.int .i64 o.kind, .string o.key, .string o.val]] W fun e w' => RsOut W (givF o (beh (hs.take q))) e w') := fun q a' c' m W hm hq hE => rgiven_any o hok hov a' m c' _ hm (by have := len_beh (hs.take q); have : (hs.take q).length ≤ q := List.length_take_le _ _; omega) (ris_beh _) (HBS.out q) W hE
  have HSA : Hid (∀ (g : Rs) (a' : Option Addr) (c' : Nat) (W : World), Fr (fun _ => False) w W → Ens W a' c' g.ents → Calls Tryz.prog 62 #[.agg #[.bool g.found, .string g.val, .slice a' g.ents.length c'], .agg #[.bool x.found, .string x.val, .slice a2 n2 c2]] W fun e w' => e = .returned (.bool (sameB g x)) ∧ Fr (fun _ => False) W w') := fun g a' c' W f hE => rsame_any g x a' a2 _ n2 c' c2 rfl hn2 W hE (r.same f)
  obtain ⟨m, hm⟩ : ∃ m, m = hs.length := ⟨_, rfl⟩
  have HM : Hid (m = hs.length) := hm
  have hm9 : m ≤ 100000 := by omega
  have hh2 : Calls Tryz.prog 18 #[.slice a n c] ((w.alloc (.cells #[.int .i64 o.kind, .string o.key, .string o.val] 35)).alloc (.cells #[.bool x.found, .string x.val, .slice a2 n2 c2] 37)) fun e w' => ∃ a' c', e = .returned (.slice a' m c') ∧ Recs w' a' c' hs ∧ Fr (fun _ => False) ((w.alloc (.cells #[.int .i64 o.kind, .string o.key, .string o.val] 35)).alloc (.cells #[.bool x.found, .string x.val, .slice a2 n2 c2] 37)) w' := hh.mono fun e w' ⟨a', c', he, hr, _, f⟩ => ⟨a', c', by rw [he, hm], hr, f⟩
  have HAT : Hid (kindB o.kind = true → ∀ k : Nat, k ≤ m → f ≤ k → atB hs o x k = true → (∀ j : Nat, j < k → f ≤ j → atB hs o x j = false) → agr hs o x f = some k) := fun hk k h1 h2 h3 h4 => agr_at hk (by omega) h2 h3 h4
  have HNONE : Hid (kindB o.kind = true → (∀ j : Nat, j ≤ m → f ≤ j → atB hs o x j = false) → agr hs o x f = none) := fun hk h1 => agr_none hk (fun j hj => h1 j (by omega))
  have HBAD : Hid (kindB o.kind = false → agr hs o x f = none) := fun hk => agr_bad hk
  obtain ⟨A, hA⟩ : ∃ A : Nat → Bool, A = atB hs o x := ⟨_, rfl⟩
  have HA : Hid (∀ k, sameB (givF o (beh (hs.take k))) x = A k) := fun k => by rw [hA]; rfl
  rw [← hA] at HAT HNONE
  obtain ⟨R, hR⟩ : ∃ R, R = agr hs o x f := ⟨_, rfl⟩
  rw [← hR] at HAT HNONE HBAD ⊢
  obtain ⟨Gv, hGv⟩ : ∃ Gv : Nat → Rs, Gv = fun q => givF o (beh (hs.take q)) := ⟨_, rfl⟩
  have HGV2 : Hid (∀ (q : Nat) (a' : Option Addr) (c' m : Nat) (W : World), m = (beh (hs.take q)).length → q ≤ hs.length → Ens W a' c' (beh (hs.take q)) → Calls Tryz.prog 53 #[.slice a' m c', .agg #[.int .i64 o.kind, .string o.key, .string o.val]] W fun e w' => RsOut W (Gv q) e w') := by rw [hGv]; exact HGV.out
  have HA2 : Hid (∀ k, sameB (Gv k) x = A k) := by rw [hGv]; exact HA.out
  obtain ⟨kind, key, val⟩ := o
  dsimp only at *
  clear hh h r hn hf hlen hn2 hm hA hR hGv HGV HA hok hov
  go_enter Tryz.func30, Tryz.ntmps30
  go_wp2_with fail
  generalize (w.alloc (.cells #[.int .i64 kind, .string key, .string val] 35)).alloc (.cells #[.bool x.found, .string x.val, .slice a2 n2 c2] 37) = V at *
  refine hh2.mono ?_
  rintro e w1 ⟨a', c', rfl, hr, f1⟩
  clear hh2
  have HS1 : Hid (∀ W, Fr (fun _ => False) w1 W → Recs W a' c' hs) := fun W f => hr.same f
  have HB0 : Hid (∀ W, Fr (fun _ => False) w1 W → W.heap[w.heap.size]? = some (.cells #[.int .i64 kind, .string key, .string val] 35 (0, 0))) := fun W f => (f1.seq' f).blk B0 (fun f => f)
  have HB1 : Hid (∀ W, Fr (fun _ => False) w1 W → W.heap[w.heap.size + 1]? = some (.cells #[.bool x.found, .string x.val, .slice a2 n2 c2] 37 (0, 0))) := fun W f => (f1.seq' f).blk B1 (fun f => f)
  have HF1 : Hid (Fr (fun _ => False) w w1) := f0.seq' f1
  clear hr f1 f0 B0 B1
  cases hkb : kindB kind with
  | false =>
    have HR0 : Hid (R = none) := HBAD.out hkb
    obtain ⟨⟨d0, d1, d2⟩, _⟩ := three_cells (HB0.out _ (Fr.refl _ _))
    have hmi : (0 : Int) ≤ (m : Int) := by omega
    have hkd : decide (1 ≤ kind) = false ∨ (decide (1 ≤ kind) = true ∧ decide (kind ≤ 4) = false) := by
      have := hkb
      unfold kindB at this
      rw [decide_eq_false_iff_not] at this
      by_cases h1 : 1 ≤ kind
      · right; exact ⟨by simpa using h1, by simp; omega⟩
      · left; simpa using h1
    rcases hkd with h1 | ⟨h1, h2⟩
    all_goals
      clear hkb
      go_wp2
      refine wp_loop_rounds 1 ?_
      rw [rounds_succ]
      go_wp2
      go_ret2
      exact ⟨by rw [HR0.out]; rfl, HF1.out⟩
  | true =>
    obtain ⟨hk1, hk2⟩ : decide (1 ≤ kind) = true ∧ decide (kind ≤ 4) = true := by
      have := hkb
      unfold kindB at this
      rw [decide_eq_true_eq] at this
      exact ⟨by simp; omega, by simp; omega⟩
    have HAT2 := HAT.out hkb
    have HNO2 := HNONE.out hkb
    have HAT3 : Hid (∀ k : Nat, k ≤ m → f ≤ k → A k = true → (∀ j : Nat, j < k → f ≤ j → A j = false) → R = some k) := HAT2
    have HNO3 : Hid ((∀ j : Nat, j ≤ m → f ≤ j → A j = false) → R = none) := HNO2
    clear HAT2 HNO2 HAT HNONE HBAD hkb
    go_wp2
    go_loopw [11] (fun i wr => ∃ k : Nat, k ≤ m + 1 ∧ i = .int .i64 k ∧ Hid (∀ j : Nat, j < k → f ≤ j → A j = false) ∧ Fr (fun _ => False) w1 wr) (fun i _ => m + 1 - (intOf i).toNat)
    case atStart => exact ⟨0, by omega, rfl, (fun j h => by omega), Fr.refl _ _⟩
    case round =>
      obtain ⟨k, hk, rfl, HE, F⟩ := hrel
      obtain ⟨⟨d0, d1, d2⟩, _⟩ := three_cells (HB0.out _ F)
      by_cases hlt : k ≤ m
      · have hki : decide ((k : Int) ≤ (m : Int)) = true := by simp; omega
        have hki2 : decide (k ≤ m) = true := by simpa using hlt
        have hbe0 := HBE.out a' c' k wr (by have := HM.out; omega) (HS1.out _ F)
        rw [← HM.out] at hbe0
        have HLE : Hid (k ≤ hs.length) := by show _ ≤ _; have := HM.out; omega
        obtain ⟨z, hz⟩ : ∃ z, z = (beh (hs.take k)).length := ⟨_, rfl⟩
        have HZ : Hid (z = (beh (hs.take k)).length) := hz
        have hbe : Calls Tryz.prog 15 #[.slice a' m c', .int .i64 k] wr fun e w' => ∃ a3 c3, e = .returned (.tuple #[.slice a3 z c3, .int .i64 0]) ∧ Hid (Ens w' a3 c3 (beh (hs.take k))) ∧ Fr (fun _ => False) wr w' := hbe0.mono fun e w' ⟨a3, c3, he, hE, _, f⟩ => ⟨a3, c3, by rw [he, hz], hE, f⟩
        clear hbe0 hz
        go_wp2_with fail
        refine hbe.mono ?_
        rintro e w3 ⟨a3, c3, rfl, HE3, f3⟩
        clear hbe d0 d1 d2
        have F3 := F.seq' f3
        clear f3
        by_cases hfk : f ≤ k
        · have hfk' : decide (f ≤ (k : Int)) = true := by simpa using hfk
          have hgv := HGV2.out k a3 c3 z w3.drew HZ.out HLE.out (HE3.out.same ((Fr.refl _ _).drew))
          obtain ⟨⟨d0, d1, d2⟩, _⟩ := three_cells (HB0.out _ F3.drew)
          obtain ⟨⟨t0, t1, t2⟩, _⟩ := three_cells (HB1.out _ F3.drew)
          have q0 : (w3.drew.cell? ⟨w.heap.size, 0, none⟩ = some (.int .i64 kind) ∧ w3.drew.cell? ⟨w.heap.size, 1, none⟩ = some (.string key) ∧ w3.drew.cell? ⟨w.heap.size, 2, none⟩ = some (.string val)) ∧ w3.drew.cell? ⟨w.heap.size + 1, 0, none⟩ = some (.bool x.found) ∧ w3.drew.cell? ⟨w.heap.size + 1, 1, none⟩ = some (.string x.val) ∧ w3.drew.cell? ⟨w.heap.size + 1, 2, none⟩ = some (.slice a2 n2 c2) := ⟨⟨d0, d1, d2⟩, t0, t1, t2⟩
          have HQ : Hid (∀ W, Fr (fun _ => False) w1 W → (W.cell? ⟨w.heap.size, 0, none⟩ = some (.int .i64 kind) ∧ W.cell? ⟨w.heap.size, 1, none⟩ = some (.string key) ∧ W.cell? ⟨w.heap.size, 2, none⟩ = some (.string val)) ∧ W.cell? ⟨w.heap.size + 1, 0, none⟩ = some (.bool x.found) ∧ W.cell? ⟨w.heap.size + 1, 1, none⟩ = some (.string x.val) ∧ W.cell? ⟨w.heap.size + 1, 2, none⟩ = some (.slice a2 n2 c2)) := fun W f => ⟨(three_cells (HB0.out _ f)).1, (three_cells (HB1.out _ f)).1⟩
          have HF3 : Hid (Fr (fun _ => False) w1 w3.drew) := F3.drew
          have HAK := HA2.out k
          generalize Gv k = g at *
          clear d0 d1 d2 t0 t1 t2 F3 F
          go_wp2
          go_region_held3 (fun W => (W.cell? ⟨w.heap.size, 0, none⟩ = some (.int .i64 kind) ∧ W.cell? ⟨w.heap.size, 1, none⟩ = some (.string key) ∧ W.cell? ⟨w.heap.size, 2, none⟩ = some (.string val)) ∧ W.cell? ⟨w.heap.size + 1, 0, none⟩ = some (.bool x.found) ∧ W.cell? ⟨w.heap.size + 1, 1, none⟩ = some (.string x.val) ∧ W.cell? ⟨w.heap.size + 1, 2, none⟩ = some (.slice a2 n2 c2))
            (first | with_reducible exact q0 | with_reducible exact q1 | with_reducible exact q2 | fail)
            (first
              | (go_at_call 53; refine hgv.mono ?_; rintro e w5 ⟨a5, c5, rfl, hE, ho, f5⟩; have HF5 : Hid (Fr (fun _ => False) w1 w5) := HF3.out.seq' f5; have q1 := HQ.out _ HF5.out; have HE5 : Hid (Ens w5 a5 c5 g.ents) := hE; clear hE ho f5)
              | (go_at_call 62; refine (HSA.out g a5 c5 w5 (HF1.out.seq' HF5.out) HE5.out).mono ?_; rintro e w6 ⟨rfl, f6⟩; have HF6 : Hid (Fr (fun _ => False) w1 w6) := HF5.out.seq' f6; have q2 := HQ.out _ HF6.out; clear f6))
          have HFF : Hid (Fr (fun _ => False) w w6) := HF1.out.seq' HF6.out
          cases hak : A k with
          | true =>
            have HRS : Hid (R = some k) := HAT3.out k hlt hfk hak HE.out
            clear q0 q1 q2 hgv HE5 HAK hak
            go_wp2
            go_ret2
            exact ⟨by rw [HRS.out]; rfl, HFF.out⟩
          | false =>
            have HE6 : Hid (∀ j : Nat, j < k + 1 → f ≤ j → A j = false) := fun j hj hfj => by
              rcases Nat.lt_or_ge j k with h1 | h1
              · exact HE.out j h1 hfj
              · have : j = k := by omega
                rw [this]; exact hak
            clear q0 q1 q2 hgv HE5 HAK hak
            go_wp2
            go_roundw
            case rel => exact ⟨k + 1, by omega, by go_num, HE6, HF6.out⟩
            case measure => simp [intOf]; omega
        · have hfk' : decide (f ≤ (k : Int)) = false := by simpa using hfk
          have HE6 : Hid (∀ j : Nat, j < k + 1 → f ≤ j → A j = false) := fun j hj hfj => by
            rcases Nat.lt_or_ge j k with h1 | h1
            · exact HE.out j h1 hfj
            · exfalso; have : j = k := by omega
              rw [this] at hfj; exact hfk hfj
          clear hfk F
          go_wp2
          go_quiet (fail)
          go_wp2
          go_roundw
          case rel => exact ⟨k + 1, by omega, by go_num, HE6, F3.drewN _⟩
          case measure => simp [intOf]; omega
      · have HRN : Hid (R = none) := HNO3.out (fun j hj hfj => HE.out j (by omega) hfj)
        have hki : decide ((k : Int) ≤ (m : Int)) = false := by simp; omega
        have hki2 : decide (k ≤ m) = false := by simpa using hlt
        go_wp2
        go_ret2
        exact ⟨by rw [HRN.out]; rfl, HF1.out.seq' F⟩
end Go.Proofs.YtdlnflcjodpkiaaGreat
