
/- FdAgr2. -/
import Derived.Test.YthdbkanbgfajbaaGreatTB14
import Derived.Test.YthdbkanbgfajbaaGreatTB15
import Derived.Test.YthdbkanbgfajbaaGreatTB11
import Derived.Test.YthdbkanbgfajbaaGreatTB8
/- Agrees. -/
namespace Go.Proofs.YthdbkanbgfajbaaGreat
open Go.RowKit Go.Shelf

theorem Recs.on {S : Nat → Prop} {w w' : World} {a : Option Addr} {cap : Nat} {ls : List Rec} (h : Recs w a cap ls) (f : Fr S w w') (hS : ∀ k, k < w.heap.size → ¬ S k) : Recs w' a cap ls := by
  refine ⟨h.le, h.max, ?_⟩
  rcases h.at_ with h0 | ⟨b, off, rfl, hb, hc⟩
  · exact .inl h0
  · exact .inr ⟨b, off, rfl, Nat.lt_of_lt_of_le hb f.size, fun i r hr => range_fr (hc i r hr) f (hS b hb)⟩
theorem Ens.on {S : Nat → Prop} {w w' : World} {a : Option Addr} {cap : Nat} {ls : List En} (h : Ens w a cap ls) (f : Fr S w w') (hS : ∀ k, k < w.heap.size → ¬ S k) : Ens w' a cap ls := by
  refine ⟨h.le, h.max, ?_⟩
  rcases h.at_ with h0 | ⟨b, off, rfl, hb, hc⟩
  · exact .inl h0
  · exact .inr ⟨b, off, rfl, Nat.lt_of_lt_of_le hb f.size, fun i r hr => range_fr (hc i r hr) f (hS b hb)⟩
set_option maxRecDepth 100000 in
set_option maxHeartbeats 4000000 in
theorem agrees_any (a : Option Addr) (n c : Nat) (ls : List Rec) (hn : n = ls.length) (hf : n ≤ 100000) (o : Opn) (hok : o.key.size ≤ maxLen) (hov : o.val.size ≤ maxLen) (x : Rs) (a2 : Option Addr) (n2 c2 : Nat) (hn2 : n2 = x.ents.length) (hsm : ∀ e ∈ x.ents, e.1.size ≤ maxLen) (f : Int) (w : World) (h : Recs w a c ls) (r : Ens w a2 c2 x.ents) :
    Calls Tryz.prog 40 #[.slice a n c, .agg #[.int .i64 o.kind, .string o.key, .string o.val], .agg #[.bool x.found, .string x.val, .slice a2 n2 c2], .int .i64 f] w fun e w' => e = .returned (plV (agr (hist ls) o x f)) ∧ Fr (fun _ => False) w w' := by
  obtain ⟨B0, B1⟩ := two_new w (.cells #[.int .i64 o.kind, .string o.key, .string o.val] 30) (.cells #[.bool x.found, .string x.val, .slice a2 n2 c2] 47)
  have f0 : Fr (fun _ => False) w ((w.alloc (.cells #[.int .i64 o.kind, .string o.key, .string o.val] 30)).alloc (.cells #[.bool x.found, .string x.val, .slice a2 n2 c2] 47)) := ((Fr.refl _ _).alloc _).alloc _
  have hh := history_any a n c ls hn (by omega) _ (h.same f0)
  have hlen : (hist ls).length ≤ 100000 := by have := hist_len ls; omega
  have HKZ : Hid (∀ r ∈ hist ls, r.key.size ≤ 1000) := fun r hr => beh_key hr
  have hik := isKind_any o.kind
  generalize hist ls = hs at *
  have HLK : Hid (∀ (k : ByteArray), k.size ≤ 1000 → ∀ W, Calls Tryz.prog 52 #[.agg #[.int .i64 o.kind, .string o.key, .string o.val], .string k] W fun e w' => e = .returned (.bool (lookB o k)) ∧ Fr (fun _ => False) W w') := fun k hk W => looksAt_any o k (by unfold maxLen; omega) hok hov W
  have HGV : Hid (∀ (b k : Nat) (W : World), k ≤ 100000 → Em W b (fil hs o k) → Ens W a2 c2 x.ents → Calls Tryz.prog 54 #[.map (some b), .agg #[.int .i64 o.kind, .string o.key, .string o.val], .agg #[.bool x.found, .string x.val, .slice a2 n2 c2]] W fun e w' => e = .returned (.bool (atB hs o x k)) ∧ Fr (fun _ => False) W w') := fun b k W hk hE hX => by
    have := gives_any o hok hov b (fil hs o k) (by have := fil_len hs o k; omega) (fil_look hs o k) x a2 n2 c2 hn2 hsm W hE hX
    rwa [atB_fil] at this
  obtain ⟨m, hm⟩ : ∃ m, m = hs.length := ⟨_, rfl⟩
  have HM : Hid (m = hs.length) := hm
  have hm9 : m ≤ 100000 := by omega
  have hh2 : Calls Tryz.prog 11 #[.slice a n c] ((w.alloc (.cells #[.int .i64 o.kind, .string o.key, .string o.val] 30)).alloc (.cells #[.bool x.found, .string x.val, .slice a2 n2 c2] 47)) fun e w' => ∃ a' c', e = .returned (.slice a' m c') ∧ Recs w' a' c' hs ∧ Fr (fun _ => False) ((w.alloc (.cells #[.int .i64 o.kind, .string o.key, .string o.val] 30)).alloc (.cells #[.bool x.found, .string x.val, .slice a2 n2 c2] 47)) w' := hh.mono fun e w' ⟨a', c', he, hr, _, f⟩ => ⟨a', c', by rw [he, hm], hr, f⟩
  have HAT : Hid (kindB o.kind = true → ∀ k : Nat, k ≤ m → f ≤ k → atB hs o x k = true → (∀ j : Nat, j < k → f ≤ j → atB hs o x j = false) → agr hs o x f = some k) := fun hk k h1 h2 h3 h4 => agr_at hk (by omega) h2 h3 h4
  have HNONE : Hid (kindB o.kind = true → (∀ j : Nat, j ≤ m → f ≤ j → atB hs o x j = false) → agr hs o x f = none) := fun hk h1 => agr_none hk (fun j hj => h1 j (by omega))
  have HBAD : Hid (kindB o.kind = false → agr hs o x f = none) := fun hk => agr_bad hk
  have HAS : Hid (∀ (k : Nat) (r : Rec), hs[k]? = some r → lookB o r.key = false → atB hs o x (k + 1) = atB hs o x k ∧ fil hs o (k + 1) = fil hs o k) := fun k r hr hl => ⟨atB_same hr hl, by rw [fil_succ hr, if_neg (by rw [hl]; simp)]⟩
  have HFS : Hid (∀ (k : Nat) (r : Rec), hs[k]? = some r → lookB o r.key = true → fil hs o (k + 1) = wth (fil hs o k) r) := fun k r hr hl => by rw [fil_succ hr, if_pos hl]
  have HF0 : Hid (fil hs o 0 = []) := fil_zero hs o
  have HFL : Hid (∀ k, (fil hs o k).length ≤ k) := fil_len hs o
  have HXX : Hid (∀ W, Fr (fun _ => False) w W → Ens W a2 c2 x.ents) := fun W f => r.same f
  obtain ⟨A, hA⟩ : ∃ A : Nat → Bool, A = atB hs o x := ⟨_, rfl⟩
  rw [← hA] at HAT HNONE HGV HAS
  obtain ⟨P, hP⟩ : ∃ P : Nat → List En, P = fil hs o := ⟨_, rfl⟩
  rw [← hP] at HGV HAS HFS HF0 HFL
  obtain ⟨R, hR⟩ : ∃ R, R = agr hs o x f := ⟨_, rfl⟩
  rw [← hR] at HAT HNONE HBAD ⊢
  obtain ⟨Lk, hLk⟩ : ∃ Lk : ByteArray → Bool, Lk = lookB o := ⟨_, rfl⟩
  rw [← hLk] at HLK HAS HFS
  obtain ⟨kind, key, val⟩ := o
  dsimp only at *
  clear hh h r hn hf hlen hn2 hm hA hR hP hLk hok hov hsm
  cases hkb : kindB kind with
  | false =>
    have HR0 : Hid (R = none) := HBAD.out hkb
    rw [hkb] at hik
    clear hkb hh2 HAT HNONE HBAD B0 B1
    go_enter Tryz.func40, Tryz.ntmps40
    go_wp2_with (go_at_call 51; refine (hik _).mono ?_; rintro e w' ⟨rfl, hw⟩; have hw2 := hw.symm; clear hw; subst hw2)
    go_ret2
    exact ⟨by rw [HR0.out]; rfl, f0⟩
  | true =>
    rw [hkb] at hik
    have HAT2 := HAT.out hkb
    have HNO2 := HNONE.out hkb
    have HAT3 : Hid (∀ k : Nat, k ≤ m → f ≤ k → A k = true → (∀ j : Nat, j < k → f ≤ j → A j = false) → R = some k) := HAT2
    have HNO3 : Hid ((∀ j : Nat, j ≤ m → f ≤ j → A j = false) → R = none) := HNO2
    clear HAT2 HNO2 HAT HNONE HBAD hkb
    have hmm := @run_makeMap Tryz.prog
    go_enter Tryz.func40, Tryz.ntmps40
    go_wp2_with (first | (go_at_call 51; refine (hik _).mono ?_; rintro e w' ⟨rfl, hw⟩; have hw2 := hw.symm; clear hw; subst hw2) | (go_at_call 11; refine Hid.out (?_ : Hid _)))
    unfold Hid
    generalize (w.alloc (.cells #[.int .i64 kind, .string key, .string val] 30)).alloc (.cells #[.bool x.found, .string x.val, .slice a2 n2 c2] 47) = V at *
    refine hh2.mono ?_
    rintro e w1 ⟨a', c', rfl, hr, f1⟩
    clear hh2 hik
    have hz1 := lt_of_block (f1.blk B1 (fun f => f))
    have HZ1 : Hid (w.heap.size + 1 < w1.heap.size) := hz1
    have HS1 : Hid (∀ W, Fr (fun k => k = w1.heap.size) w1 W → Recs W a' c' hs) := fun W f => hr.on f (fun k hk e => by omega)
    have HB0 : Hid (∀ W, Fr (fun k => k = w1.heap.size) w1 W → W.heap[w.heap.size]? = some (.cells #[.int .i64 kind, .string key, .string val] 30 (0, 0))) := fun W f => f.blk (f1.blk B0 (fun f => f)) (by have := HZ1.out; omega)
    have HB1 : Hid (∀ W, Fr (fun k => k = w1.heap.size) w1 W → W.heap[w.heap.size + 1]? = some (.cells #[.bool x.found, .string x.val, .slice a2 n2 c2] 47 (0, 0))) := fun W f => f.blk (f1.blk B1 (fun f => f)) (by have := HZ1.out; omega)
    have HX1 : Hid (∀ W, Fr (fun k => k = w1.heap.size) w1 W → Ens W a2 c2 x.ents) := fun W f => (HXX.out _ (f0.seq' f1)).on f (fun k hk e => by omega)
    have HFW : Hid (∀ W, Fr (fun k => k = w1.heap.size) w1 W → Fr (fun _ => False) w W) := fun W f => (f0.seq' f1).trans f (fun i hi e => by have := HZ1.out; omega)
    have hc3 : m ≤ c' := by have := hr.le; have := HM.out; omega
    have hc3m := hr.max
    have HE0 : Hid (Em (w1.alloc (.map #[] 0)) w1.heap.size (P 0)) := by show Em _ _ _; rw [HF0.out]; exact Em.made w1
    have HFA : Hid (Fr (fun k => k = w1.heap.size) w1 (w1.alloc (.map #[] 0))) := (Fr.refl _ _).alloc _
    clear hr f1 f0 B0 B1 hz1
    go_wp2
    clear hmm
    go_loopw [23, 11] (fun i tv wr => ∃ (k : Nat) (tb : Bool), k ≤ m + 1 ∧ i = .int .i64 k ∧ tv = .bool tb ∧ Hid (∀ j : Nat, j < k → f ≤ j → A j = false) ∧ Hid (tb = true → 1 ≤ k ∧ f ≤ ((k - 1 : Nat) : Int) ∧ A (k - 1) = false) ∧ Hid (Em wr w1.heap.size (P (k - 1))) ∧ Fr (fun k => k = w1.heap.size) w1 wr) (fun i _ _ => m + 1 - (intOf i).toNat)
    case atStart => exact ⟨0, false, by omega, rfl, rfl, (fun j h => by omega), (fun h => by cases h), HE0, HFA.out⟩
    case round =>
      obtain ⟨k, tb, hk, rfl, rfl, HE, HT, HEM, F⟩ := hrel
      by_cases hlt : k ≤ m
      · have hki : (k : Int) < (m : Int) + 1 := by omega
        -- the round
        by_cases hk0 : k = 0
        · have hk0' : decide ((0 : Int) < (k : Int)) = false := by simp; omega
          have hk0'' : decide (0 < k) = false := by simp; omega
          have HTK : Hid (tb = true → f ≤ (k : Int) ∧ A k = false) := fun h => by have := (HT.out h).1; omega
          have HEK : Hid (Em wr w1.heap.size (P (k + 1 - 1))) := by
            show Em _ _ _
            have := HEM.out
            rw [hk0] at this ⊢
            exact this
          clear hk0
          go_wp2
          go_quiet (fail)
          have FQ : Fr (fun k => k = w1.heap.size) w1 (wr.drewN nq) := F.drewN _
          have HEK2 : Hid (Em (wr.drewN nq) w1.heap.size (P (k + 1 - 1))) := HEK.out.same ((Fr.refl _ _).drewN _)
          obtain ⟨⟨d0, d1, d2⟩, _⟩ := three_cells (HB0.out _ FQ)
          obtain ⟨⟨t0, t1, t2⟩, _⟩ := three_cells (HB1.out _ FQ)
          by_cases hfk : (k : Int) < f
          · have hfk' : decide ((k : Int) < f) = true := by simpa using hfk
            have HE6 : Hid (∀ j : Nat, j < k + 1 → f ≤ j → A j = false) := fun j hj hfj => by
              rcases Nat.lt_or_ge j k with h1 | h1
              · exact HE.out j h1 hfj
              · exfalso; omega
            have HT6 : Hid (tb = true → 1 ≤ k + 1 ∧ f ≤ ((k + 1 - 1 : Nat) : Int) ∧ A (k + 1 - 1) = false) := fun h => by have := (HTK.out h).1; omega
            clear hfk
            go_wp2
            go_roundw
            case rel => exact ⟨k + 1, tb, by omega, by go_num, rfl, HE6, HT6, HEK2, FQ⟩
            case measure => simp [intOf]; omega
          · have hfk' : decide ((k : Int) < f) = false := by simpa using hfk
            have HFK : Hid (f ≤ (k : Int)) := by show _ ≤ _; omega
            cases tb with
            | true =>
              have HAK : Hid (A k = false) := (HTK.out rfl).2
              have HE6 : Hid (∀ j : Nat, j < k + 1 → f ≤ j → A j = false) := fun j hj hfj => by
                rcases Nat.lt_or_ge j k with h1 | h1
                · exact HE.out j h1 hfj
                · have : j = k := by omega
                  rw [this]; exact HAK.out
              have HT6 : Hid (true = true → 1 ≤ k + 1 ∧ f ≤ ((k + 1 - 1 : Nat) : Int) ∧ A (k + 1 - 1) = false) := fun _ => ⟨by omega, by rw [show k + 1 - 1 = k by omega]; exact HFK.out, by rw [show k + 1 - 1 = k by omega]; exact HAK.out⟩
              clear hfk
              go_wp2
              go_roundw
              case rel => exact ⟨k + 1, true, by omega, by go_num, rfl, HE6, HT6, HEK2, FQ⟩
              case measure => simp [intOf]; omega
            | false =>
              have hgv := HGV.out w1.heap.size k (wr.drewN nq) (by omega) HEK2.out (HX1.out _ FQ)
              have HAK3 := HAT3.out k hlt HFK.out
              cases hak : A k with
              | true =>
                rw [hak] at hgv
                have HRS : Hid (R = some k) := HAK3 hak HE.out
                have HFF : Hid (∀ W, Fr (fun _ => False) (wr.drewN nq) W → Fr (fun _ => False) w W) := fun W f => (HFW.out _ FQ).seq' f
                clear hak HAK3 hfk
                go_wp2_with fail
                refine hgv.mono ?_
                rintro e w8 ⟨rfl, f8⟩
                clear hgv
                go_wp2
                go_ret2
                exact ⟨by rw [HRS.out]; rfl, HFF.out _ f8⟩
              | false =>
                rw [hak] at hgv
                have HE6 : Hid (∀ j : Nat, j < k + 1 → f ≤ j → A j = false) := fun j hj hfj => by
                  rcases Nat.lt_or_ge j k with h1 | h1
                  · exact HE.out j h1 hfj
                  · have : j = k := by omega
                    rw [this]; exact hak
                have HT6 : Hid (1 ≤ k + 1 ∧ f ≤ ((k + 1 - 1 : Nat) : Int) ∧ A (k + 1 - 1) = false) := ⟨by omega, by rw [show k + 1 - 1 = k by omega]; exact HFK.out, by rw [show k + 1 - 1 = k by omega]; exact hak⟩
                clear hak HAK3 hfk
                go_wp2_with fail
                refine hgv.mono ?_
                rintro e w8 ⟨rfl, f8⟩
                clear hgv
                have HEK8 : Hid (Em w8 w1.heap.size (P (k + 1 - 1))) := HEK2.out.same f8
                have F8 : Fr (fun k => k = w1.heap.size) w1 w8 := (FQ).trans f8 (fun _ _ f => f.elim)
                clear f8
                go_wp2
                go_roundw
                case rel => exact ⟨k + 1, true, by omega, by go_num, rfl, HE6, (fun _ => HT6.out), HEK8, F8⟩
                case measure => simp [intOf]; omega
        · obtain ⟨j, rfl⟩ : ∃ j, k = j + 1 := ⟨k - 1, by omega⟩
          obtain ⟨r, hr⟩ : ∃ r, hs[j]? = some r := ⟨_, List.getElem?_eq_getElem (by have := HM.out; omega)⟩
          obtain ⟨bb, off, ebb, hbb, hcc⟩ := (HS1.out _ F).some (by have := HM.out; omega)
          subst ebb
          obtain ⟨p0, p1, p2, p3, p4, p5, p6, p7⟩ := rec_range (hcc j r hr)
          obtain ⟨⟨d0, d1, d2⟩, _⟩ := three_cells (HB0.out _ F)
          have hkz := HKZ.out r (List.mem_of_getElem? hr)
          have hlk := HLK.out r.key hkz wr.drew
          have HRX : Hid (hs[j]? = some r) := hr
          have hj1 : IntKind.i64.wrap ((j : Int) + 1 - 1) = (j : Int) := by rw [IntKind.wrap_i64]; omega
          have hj2 : (j : Int) + 1 - 1 = (j : Int) := by omega
          have hj3 : IntKind.i64.wrap (j : Int) = (j : Int) := by rw [IntKind.wrap_i64]; omega
          have hjm : (j : Int) < (m : Int) := by omega
          have hjp : (0 : Int) < (j : Int) + 1 := by omega
          have q0 : wr.drew.cell? ⟨w.heap.size, 0, none⟩ = some (.int .i64 kind) ∧ wr.drew.cell? ⟨w.heap.size, 1, none⟩ = some (.string key) ∧ wr.drew.cell? ⟨w.heap.size, 2, none⟩ = some (.string val) ∧ wr.drew.cell? ⟨bb, off + j * 8 + 6, none⟩ = some (.string r.key) := ⟨d0, d1, d2, p6⟩
          have HQ : Hid (∀ W, Fr (fun _ => False) wr.drew W → W.cell? ⟨w.heap.size, 0, none⟩ = some (.int .i64 kind) ∧ W.cell? ⟨w.heap.size, 1, none⟩ = some (.string key) ∧ W.cell? ⟨w.heap.size, 2, none⟩ = some (.string val) ∧ W.cell? ⟨bb, off + j * 8 + 6, none⟩ = some (.string r.key)) := fun W f => by
            have f' : Fr (fun k => k = w1.heap.size) w1 W := (F.drew).trans f (fun _ _ e => e.elim)
            obtain ⟨⟨e0, e1, e2⟩, _⟩ := three_cells (HB0.out _ f')
            refine ⟨e0, e1, e2, ?_⟩
            have := f.cell (p := ⟨bb, off + j * 8 + 6, none⟩) hbb (fun f => f)
            rw [this]; exact p6
          cases hlb : Lk r.key with
          | false =>
            rw [hlb] at hlk
            obtain ⟨g1, g2⟩ := HAS.out j r HRX.out hlb
            have HTK0 : Hid (tb = true → f ≤ ((j + 1 : Nat) : Int) ∧ A (j + 1) = false) := fun h => by
              have h1 := HT.out h
              rw [show j + 1 - 1 = j by omega] at h1
              exact ⟨by have := h1.2.1; omega, by rw [g1]; exact h1.2.2⟩
            have HEP : Hid (∀ W, Fr (fun _ => False) wr W → Em W w1.heap.size (P (j + 1))) := fun W f => by
              have := HEM.out
              rw [show j + 1 - 1 = j by omega] at this
              rw [g2]; exact this.same f
            clear hlb g1 g2 hr hcc d0 d1 d2 p0 p1 p2 p3 p4 p5 p7
            go_wp2
            go_region_held3 (fun W => W.cell? ⟨w.heap.size, 0, none⟩ = some (.int .i64 kind) ∧ W.cell? ⟨w.heap.size, 1, none⟩ = some (.string key) ∧ W.cell? ⟨w.heap.size, 2, none⟩ = some (.string val) ∧ W.cell? ⟨bb, off + j * 8 + 6, none⟩ = some (.string r.key))
              (first | with_reducible exact q0 | with_reducible exact q1 | fail)
              ((go_at_call 52; refine hlk.mono ?_; rintro e w5 ⟨rfl, f5⟩; have q1 := HQ.out _ f5; have HF5 : Hid (Fr (fun _ => False) wr w5) := ((Fr.refl (fun _ => False) wr).drew).seq' f5; clear f5))
            have F5 : Fr (fun k => k = w1.heap.size) w1 w5 := F.trans HF5.out (fun _ _ e => e.elim)
            have HEK : Hid (Em w5 w1.heap.size (P (j + 1 + 1 - 1))) := HEP.out _ HF5.out
            have HTK : Hid (tb = true → f ≤ ((j + 1 : Nat) : Int) ∧ A (j + 1) = false) := HTK0
            clear q0 q1 hlk HQ HEP HTK0 p6
            obtain ⟨⟨d0, d1, d2⟩, _⟩ := three_cells (HB0.out _ F5)
            obtain ⟨⟨t0, t1, t2⟩, _⟩ := three_cells (HB1.out _ F5)
            by_cases hfk : ((j + 1 : Nat) : Int) < f
            · have hfk' : decide ((j : Int) + 1 < f) = true := by simp; omega
              have HE6 : Hid (∀ i : Nat, i < j + 1 + 1 → f ≤ i → A i = false) := fun i hi hfi => by
                rcases Nat.lt_or_ge i (j + 1) with h1 | h1
                · exact HE.out i h1 hfi
                · exfalso; omega
              have HT6 : Hid (tb = true → 1 ≤ (j + 1) + 1 ∧ f ≤ ((j + 1 + 1 - 1 : Nat) : Int) ∧ A (j + 1 + 1 - 1) = false) := fun h => by have := (HTK.out h).1; omega
              clear hfk
              go_wp2
              go_roundw
              case rel => exact ⟨j + 1 + 1, tb, by omega, by go_num, rfl, HE6, HT6, HEK, F5⟩
              case measure => simp [intOf]; omega
            · have hfk' : decide ((j : Int) + 1 < f) = false := by simp; omega
              have HFK : Hid (f ≤ ((j + 1 : Nat) : Int)) := by show _ ≤ _; omega
              cases tb with
              | true =>
                have HAK : Hid (A (j + 1) = false) := (HTK.out rfl).2
                have HE6 : Hid (∀ i : Nat, i < j + 1 + 1 → f ≤ i → A i = false) := fun i hi hfi => by
                  rcases Nat.lt_or_ge i (j + 1) with h1 | h1
                  · exact HE.out i h1 hfi
                  · have : i = j + 1 := by omega
                    rw [this]; exact HAK.out
                have HT6 : Hid (true = true → 1 ≤ (j + 1) + 1 ∧ f ≤ ((j + 1 + 1 - 1 : Nat) : Int) ∧ A (j + 1 + 1 - 1) = false) := fun _ => ⟨by omega, by rw [show j + 1 + 1 - 1 = j + 1 by omega]; exact HFK.out, by rw [show j + 1 + 1 - 1 = j + 1 by omega]; exact HAK.out⟩
                clear hfk
                go_wp2
                go_roundw
                case rel => exact ⟨j + 1 + 1, true, by omega, by go_num, rfl, HE6, HT6, HEK, F5⟩
                case measure => simp [intOf]; omega
              | false =>
                have hgv := HGV.out w1.heap.size (j + 1) w5 (by omega) HEK.out (HX1.out _ F5)
                have HAK3 := HAT3.out (j + 1) hlt HFK.out
                cases hak : A (j + 1) with
                | true =>
                  rw [hak] at hgv
                  have HRS : Hid (R = some (j + 1)) := HAK3 hak HE.out
                  have HFF : Hid (∀ W, Fr (fun _ => False) w5 W → Fr (fun _ => False) w W) := fun W f => (HFW.out _ F5).seq' f
                  clear hak HAK3 hfk
                  go_wp2_with fail
                  refine hgv.mono ?_
                  rintro e w8 ⟨rfl, f8⟩
                  clear hgv
                  go_wp2
                  go_ret2
                  exact ⟨by rw [HRS.out]; rfl, HFF.out _ f8⟩
                | false =>
                  rw [hak] at hgv
                  have HE6 : Hid (∀ i : Nat, i < j + 1 + 1 → f ≤ i → A i = false) := fun i hi hfi => by
                    rcases Nat.lt_or_ge i (j + 1) with h1 | h1
                    · exact HE.out i h1 hfi
                    · have : i = j + 1 := by omega
                      rw [this]; exact hak
                  have HT6 : Hid (1 ≤ (j + 1) + 1 ∧ f ≤ ((j + 1 + 1 - 1 : Nat) : Int) ∧ A (j + 1 + 1 - 1) = false) := ⟨by omega, by rw [show j + 1 + 1 - 1 = j + 1 by omega]; exact HFK.out, by rw [show j + 1 + 1 - 1 = j + 1 by omega]; exact hak⟩
                  clear hak HAK3 hfk
                  go_wp2_with fail
                  refine hgv.mono ?_
                  rintro e w8 ⟨rfl, f8⟩
                  clear hgv
                  have HEK8 : Hid (Em w8 w1.heap.size (P (j + 1 + 1 - 1))) := HEK.out.same f8
                  have F8 : Fr (fun k => k = w1.heap.size) w1 w8 := (F5).trans f8 (fun _ _ f => f.elim)
                  clear f8
                  go_wp2
                  go_roundw
                  case rel => exact ⟨j + 1 + 1, true, by omega, by go_num, rfl, HE6, (fun _ => HT6.out), HEK8, F8⟩
                  case measure => simp [intOf]; omega
          | true =>
            rw [hlb] at hlk
            have hfs := HFS.out j r HRX.out hlb
            have HPL : Hid ((P j).length ≤ 1000000) := by show _ ≤ _; have := HFL.out j; omega
            have HEJ : Hid (∀ W, Fr (fun _ => False) wr W → Em W w1.heap.size (P j)) := fun W f => by
              have := HEM.out
              rw [show j + 1 - 1 = j by omega] at this
              exact this.same f
            have HRC : Hid (∀ W, Fr (fun _ => False) wr W → Recs W (some ⟨bb, off, none⟩) c' hs) := fun W f => HS1.out _ (F.trans f (fun _ _ e => e.elim))
            have HWF : Hid (∀ W, Em W w1.heap.size (P j) → Calls Tryz.prog 53 #[.map (some w1.heap.size), (.agg #[.int .i64 r.lsn, .int .i64 r.ep, .int .i64 r.kind, .int .i64 r.page, .int .i64 r.other, .int .i64 r.req, .string r.key, .string r.val])] W fun e w' => e = .returned (.tuple #[]) ∧ Em w' w1.heap.size (P (j + 1)) ∧ Fr (fun k => k = w1.heap.size) W w') := fun W hE => by
              rw [hfs]; exact write_any hE HPL.out r hkz
            clear hlb hfs hr hcc d0 d1 d2 p0 p1 p2 p3 p4 p5 p7
            go_wp2
            go_region_held3 (fun W => W.cell? ⟨w.heap.size, 0, none⟩ = some (.int .i64 kind) ∧ W.cell? ⟨w.heap.size, 1, none⟩ = some (.string key) ∧ W.cell? ⟨w.heap.size, 2, none⟩ = some (.string val) ∧ W.cell? ⟨bb, off + j * 8 + 6, none⟩ = some (.string r.key))
              (first | with_reducible exact q0 | with_reducible exact q1 | fail)
              ((go_at_call 52; refine hlk.mono ?_; rintro e w5 ⟨rfl, f5⟩; have q1 := HQ.out _ f5; have HF5 : Hid (Fr (fun _ => False) wr w5) := ((Fr.refl (fun _ => False) wr).drew).seq' f5; clear f5))
            have F5 : Fr (fun k => k = w1.heap.size) w1 w5 := F.trans HF5.out (fun _ _ e => e.elim)
            obtain ⟨b9, o9, e9, hb9, hcc9⟩ := (HRC.out _ HF5.out).some (by have := HM.out; omega)
            simp only [Option.some.injEq, Addr.mk.injEq, and_true] at e9
            obtain ⟨rfl, rfl⟩ := e9
            obtain ⟨p0, p1, p2, p3, p4, p5, p6', p7⟩ := rec_range (hcc9 j r HRX.out)
            have hwr := HWF.out w5 (HEJ.out _ HF5.out)
            clear q0 q1 hlk HQ hcc9 p6
            obtain ⟨lsn, ep, knd, page, other, req, rkey, rval⟩ := r
            dsimp only at hwr p0 p1 p2 p3 p4 p5 p6' p7
            go_wp2_with fail
            refine hwr.mono ?_
            rintro e w6 ⟨rfl, hE6, f6⟩
            clear hwr p0 p1 p2 p3 p4 p5 p6' p7
            have F6 : Fr (fun k => k = w1.heap.size) w1 w6 := F5.trans f6 (fun _ _ e => e)
            have HEK : Hid (Em w6 w1.heap.size (P (j + 1 + 1 - 1))) := hE6
            have HTK : Hid (false = true → f ≤ ((j + 1 : Nat) : Int) ∧ A (j + 1) = false) := fun h => by cases h
            clear hE6 f6
            obtain ⟨⟨d0, d1, d2⟩, _⟩ := three_cells (HB0.out _ F6)
            obtain ⟨⟨t0, t1, t2⟩, _⟩ := three_cells (HB1.out _ F6)
            by_cases hfk : ((j + 1 : Nat) : Int) < f
            · have hfk' : decide ((j : Int) + 1 < f) = true := by simp; omega
              have HE6 : Hid (∀ i : Nat, i < j + 1 + 1 → f ≤ i → A i = false) := fun i hi hfi => by
                rcases Nat.lt_or_ge i (j + 1) with h1 | h1
                · exact HE.out i h1 hfi
                · exfalso; omega
              have HT6 : Hid (false = true → 1 ≤ (j + 1) + 1 ∧ f ≤ ((j + 1 + 1 - 1 : Nat) : Int) ∧ A (j + 1 + 1 - 1) = false) := fun h => by have := (HTK.out h).1; omega
              clear hfk
              go_wp2
              go_roundw
              case rel => exact ⟨j + 1 + 1, false, by omega, by go_num, rfl, HE6, HT6, HEK, F6⟩
              case measure => simp [intOf]; omega
            · have hfk' : decide ((j : Int) + 1 < f) = false := by simp; omega
              have HFK : Hid (f ≤ ((j + 1 : Nat) : Int)) := by show _ ≤ _; omega
              have hgv := HGV.out w1.heap.size (j + 1) w6 (by omega) HEK.out (HX1.out _ F6)
              have HAK3 := HAT3.out (j + 1) hlt HFK.out
              cases hak : A (j + 1) with
              | true =>
                rw [hak] at hgv
                have HRS : Hid (R = some (j + 1)) := HAK3 hak HE.out
                have HFF : Hid (∀ W, Fr (fun _ => False) w6 W → Fr (fun _ => False) w W) := fun W f => (HFW.out _ F6).seq' f
                clear hak HAK3 hfk
                go_wp2_with fail
                refine hgv.mono ?_
                rintro e w8 ⟨rfl, f8⟩
                clear hgv
                go_wp2
                go_ret2
                exact ⟨by rw [HRS.out]; rfl, HFF.out _ f8⟩
              | false =>
                rw [hak] at hgv
                have HE6 : Hid (∀ i : Nat, i < j + 1 + 1 → f ≤ i → A i = false) := fun i hi hfi => by
                  rcases Nat.lt_or_ge i (j + 1) with h1 | h1
                  · exact HE.out i h1 hfi
                  · have : i = j + 1 := by omega
                    rw [this]; exact hak
                have HT6 : Hid (1 ≤ (j + 1) + 1 ∧ f ≤ ((j + 1 + 1 - 1 : Nat) : Int) ∧ A (j + 1 + 1 - 1) = false) := ⟨by omega, by rw [show j + 1 + 1 - 1 = j + 1 by omega]; exact HFK.out, by rw [show j + 1 + 1 - 1 = j + 1 by omega]; exact hak⟩
                clear hak HAK3 hfk
                go_wp2_with fail
                refine hgv.mono ?_
                rintro e w8 ⟨rfl, f8⟩
                clear hgv
                have HEK8 : Hid (Em w8 w1.heap.size (P (j + 1 + 1 - 1))) := HEK.out.same f8
                have F8 : Fr (fun k => k = w1.heap.size) w1 w8 := (F6).trans f8 (fun _ _ f => f.elim)
                clear f8
                go_wp2
                go_roundw
                case rel => exact ⟨j + 1 + 1, true, by omega, by go_num, rfl, HE6, (fun _ => HT6.out), HEK8, F8⟩
                case measure => simp [intOf]; omega
      · have hki : ¬ (k : Int) < (m : Int) + 1 := by omega
        have HRN : Hid (R = none) := HNO3.out (fun j hj hfj => HE.out j (by omega) hfj)
        have HFF : Hid (Fr (fun _ => False) w wr) := HFW.out _ F
        clear F
        go_wp2
        go_ret2
        exact ⟨by rw [HRN.out]; rfl, HFF.out⟩
end Go.Proofs.YthdbkanbgfajbaaGreat
