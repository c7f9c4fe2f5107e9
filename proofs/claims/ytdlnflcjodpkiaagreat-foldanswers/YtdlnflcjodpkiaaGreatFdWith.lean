
/- The document's own map behind writes. -/
import Derived.Test.YtdlnflcjodpkiaaGreatFdBeh
namespace Go.Proofs.YtdlnflcjodpkiaaGreat
open Go.RowKit Go.Shelf

theorem wthG_cons (k v : ByteArray) (p : Bool) (e : En) (m : List En) : wthG k v p (e :: m) = (if p = false ∧ ¬ cp e.1 k < 0 then [(k, v)] else []) ++ ((if e.1 = k then [] else [e]) ++ wthG k v (p || !decide (cp e.1 k < 0)) m) := rfl
theorem drop_at' {L : List En} {k : Nat} {e : En} (h : L[k]? = some e) : L.drop k = e :: L.drop (k + 1) := by
  have hj := (List.getElem?_eq_some_iff.1 h).1
  rw [List.drop_eq_getElem_cons hj, (List.getElem?_eq_some_iff.1 h).2]
/-- A row that grows: its memory is new. -/
structure Acc (w0 W : World) (a : Option Addr) (n c : Nat) (L : List En) : Prop where
  n_ : n = L.length
  has : Has W 2 (.slice a n c) n (L.flatMap enC)
  own : ∀ g, (Value.slice a n c).ownBlock = some g → w0.heap.size ≤ g
theorem Acc.same {w0 W W' : World} {a : Option Addr} {n c : Nat} {L : List En} (h : Acc w0 W a n c L) (f : Fr (fun _ => False) W W') : Acc w0 W' a n c L := ⟨h.n_, h.has.fr f (fun _ _ f => f), h.own⟩
theorem Acc.nil (w0 W : World) : Acc w0 W none 0 0 [] := ⟨rfl, Has.nil _ _, (fun g e => by cases e)⟩
theorem Acc.next {w0 W W8 : World} {a a4 : Option Addr} {n c c4 : Nat} {L : List En} {x : En} (h : Acc w0 W a n c L) (hz : w0.heap.size ≤ W.heap.size) (ht : Has W8 2 (.slice a4 (n + 1) c4) (n + 1) (L.flatMap enC ++ enC x)) (hat : (Value.slice a4 (n + 1) c4).ownBlock = (Value.slice a n c).ownBlock ∨ (Value.slice a4 (n + 1) c4).ownBlock = some W.heap.size) : Acc w0 W8 a4 (n + 1) c4 (L ++ [x]) :=
  ⟨by rw [h.n_]; simp, by rw [List.flatMap_append]; simpa using ht, fun g e => by
    rcases hat with h1 | h1
    · rw [h1] at e; exact h.own g e
    · rw [h1] at e; simp at e; omega⟩
theorem Acc.fr {w0 W W8 : World} {a : Option Addr} {n c : Nat} {L : List En} (h : Acc w0 W a n c L) (f0 : Fr (fun _ => False) w0 W) (f : Fr (fun k => (Value.slice a n c).ownBlock = some k ∧ 0 < 1) W W8) : Fr (fun _ => False) w0 W8 := f0.trans f (fun i hi e => by have := h.own i e.1; omega)
theorem Acc.out {w0 W : World} {a : Option Addr} {n c : Nat} {L : List En} (h : Acc w0 W a n c L) (f : Fr (fun _ => False) w0 W) : EnOut w0 L (.returned (.slice a n c)) W := by
  obtain ⟨h1, h2, h3⟩ := h
  subst h1
  obtain ⟨a2, c2, e, hr⟩ := Ens.of h2
  simp only [Value.slice.injEq, true_and] at e
  obtain ⟨rfl, rfl⟩ := e
  exact ⟨_, _, rfl, hr, own_at h3, f⟩
theorem en_from (w : World) (x y : ByteArray) : From (w.alloc (.cells #[.string x, .string y] 77)) (some ⟨w.heap.size, 0, none⟩) (enC (x, y)) := .inr ⟨_, _, rfl, range_block (heap_alloc_new w (.cells #[.string x, .string y] 77)) (xs := enC (x, y)) (o := 0) (fun j u hu => by rw [Nat.zero_add]; simpa [enC] using hu)⟩

set_option maxRecDepth 100000 in
set_option maxHeartbeats 4000000 in
theorem with_any (a : Option Addr) (n c : Nat) (L : List En) (hn : n = L.length) (hf : n ≤ 100000) (r : Rec) (hk : r.key.size ≤ 1000) (hsm : ∀ e ∈ L, e.1.size ≤ maxLen) (w : World) (h : Ens w a c L) :
    Calls Tryz.prog 41 #[.slice a n c, (.agg #[.int .i64 r.lsn, .int .i64 r.ep, .int .i64 r.kind, .int .i64 r.page, .int .i64 r.other, .int .i64 r.req, .string r.key, .string r.val])] w fun e w' => EnOut w (wth L r) e w' := by
  obtain ⟨iR, hiR, hR0, hR1, hR2⟩ := info_parts infoEnt
  have hle : n ≤ c := by rw [hn]; exact h.le
  have hmx := h.max
  have HS : Hid (∀ W, Fr (fun _ => False) w W → Ens W a c L) := fun W f => h.same f
  have HN : Hid (n = L.length) := hn
  have HSM : Hid (∀ e ∈ L, e.1.size ≤ maxLen) := hsm
  obtain ⟨lsn, ep, kind, page, other, req, key, val⟩ := r
  dsimp only at hk
  have HCP : Hid (∀ x : ByteArray, x.size ≤ maxLen → ∀ W, Calls Tryz.prog 52 #[.string x, .string key] W fun e w' => e = .returned (.int .i64 (cp x key)) ∧ Fr (fun _ => False) W w') := fun x hx W => rcompare_any x key hx (by unfold maxLen; omega) W
  obtain ⟨R0, hR⟩ : ∃ R0, R0 = wth L ⟨lsn, ep, kind, page, other, req, key, val⟩ := ⟨_, rfl⟩
  have HR : Hid (wthG key val (decide (other ≠ 1)) L = R0) := by show _ = _; rw [hR]; rfl
  rw [← hR]
  have HB : Hid (∀ W, Fr (fun _ => False) (w.alloc (.cells #[.int .i64 lsn, .int .i64 ep, .int .i64 kind, .int .i64 page, .int .i64 other, .int .i64 req, .string key, .string val] 53)) W → W.heap[w.heap.size]? = some (.cells #[.int .i64 lsn, .int .i64 ep, .int .i64 kind, .int .i64 page, .int .i64 other, .int .i64 req, .string key, .string val] 53 (0, 0))) := fun W f => rec_at w _ _ f
  have HFB : Hid (Fr (fun _ => False) w (w.alloc (.cells #[.int .i64 lsn, .int .i64 ep, .int .i64 kind, .int .i64 page, .int .i64 other, .int .i64 req, .string key, .string val] 53))) := Fr.box w _
  obtain ⟨p0, hp0⟩ : ∃ p0, p0 = decide (other ≠ 1) := ⟨_, rfl⟩
  rw [← hp0] at HR
  have hp1 : (other != 1) = p0 := by rw [hp0, Bool.eq_iff_iff]; simp
  clear h hn hsm hR hk hp0
  go_enter Tryz.func41, Tryz.ntmps41
  go_wp2
  obtain ⟨V, hV⟩ : ∃ V, V = w.alloc (.cells #[.int .i64 lsn, .int .i64 ep, .int .i64 kind, .int .i64 page, .int .i64 other, .int .i64 req, .string key, .string val] 53) := ⟨_, rfl⟩
  rw [← hV] at HB HFB ⊢
  clear hV
  go_loopw [14, 5, 6] (fun i o p wr => ∃ (k m : Nat) (a' : Option Addr) (c' : Nat) (pb : Bool) (acc : List En), k ≤ n ∧ i = .int .i64 k ∧ o = .slice a' m c' ∧ p = .bool pb ∧ m ≤ k + 1 ∧ Hid (acc ++ wthG key val pb (L.drop k) = R0) ∧ Hid (Acc V wr a' m c' acc) ∧ Hid (m ≤ if pb = true then k + 1 else k) ∧ Fr (fun _ => False) V wr) (fun i _ _ _ => n - (intOf i).toNat)
  case atStart => exact ⟨0, 0, none, 0, p0, [], by omega, rfl, rfl, rfl, by omega, HR, Acc.nil _ _, by show _ ≤ _; split <;> omega, Fr.refl _ _⟩
  case round =>
    obtain ⟨k, m, a', c', pb, acc, hk, rfl, rfl, rfl, hmk, HE, HA, HM, F⟩ := hrel
    have HF : Hid (Fr (fun _ => False) w wr) := HFB.out.seq' F
    have HFV : Hid (Fr (fun _ => False) V wr) := F
    obtain ⟨⟨p0, p1, p2, p3, p4, p5, p6, p7⟩, _⟩ := rec_cells (HB.out _ F)
    have hwz := lt_of_block (HB.out _ F)
    by_cases hlt : k < n
    · obtain ⟨⟨x, y⟩, hs⟩ : ∃ s, L[k]? = some s := ⟨_, List.getElem?_eq_getElem (by have := HN.out; omega)⟩
      obtain ⟨bb, off, rfl, hbb, hcc⟩ := (HS.out _ HF.out).some (by have := HN.out; omega)
      obtain ⟨q0, q1⟩ := hcc k _ hs
      dsimp only at q0 q1
      have hki : (k : Int) < (n : Int) := by omega
      have hxs := HSM.out _ (List.mem_of_getElem? hs)
      have HE1 : Hid (acc ++ ((if pb = false ∧ ¬ cp x key < 0 then [(key, val)] else []) ++ ((if x = key then [] else [(x, y)]) ++ wthG key val (pb || !decide (cp x key < 0)) (L.drop (k + 1)))) = R0) := by
        show _ = _
        rw [← HE.out, drop_at' hs, wthG_cons]
      have HF1 : Hid (Fr (fun _ => False) V (wr.alloc (.cells #[.string x, .string y] 77))) := F.seq' (Fr.box wr _)
      have HA1 : Hid (Acc V (wr.alloc (.cells #[.string x, .string y] 77)) a' m c' acc) := HA.out.same (Fr.box wr _)
      have HX : Hid (∀ W, Fr (fun _ => False) (wr.alloc (.cells #[.string x, .string y] 77)) W → W.heap[wr.heap.size]? = some (.cells #[.string x, .string y] 77 (0, 0))) := fun W f => f.blk (heap_alloc_new wr _) (fun f => f)
      have hcp := HCP.out x hxs
      have HNE : Hid (cp x key < 0 → x ≠ key) := cp_ne
      have HNO : Hid (∀ g, (Value.slice a' m c').ownBlock = some g → wr.heap.size ≠ g) := fun g e => by have := HA.out.has.lt e; omega
      clear hs hcc hxs HE
      cases pb with
      | true =>
        clear hcp
        have hm1 : m ≤ k + 1 := hmk
        by_cases hxk : x = key
        · have hq : (x.toList == key.toList) = true := by simp [hxk]
          have HE7 : Hid (acc ++ wthG key val true (L.drop (k + 1)) = R0) := by
            show _ = _
            have := HE1.out
            rw [if_neg (by simp), if_pos hxk] at this
            simpa using this
          clear hxk HE1
          have HE6 : Hid (acc ++ wthG key val true (L.drop (k + 1)) = R0) := HE7
          have HM6 : Hid (m ≤ if true = true then k + 1 + 1 else k + 1) := by show _ ≤ _; simp; omega
          go_wp2
          go_roundw
          case rel => exact ⟨k + 1, m, a', c', true, acc, by omega, by go_num, rfl, rfl, by omega, HE6, HA1, HM6, HF1.out⟩
          case measure => simp [intOf]; omega
        · have hq : (x.toList == key.toList) = false := by rw [beq_bytes]; simpa using hxk
          have HE7 : Hid ((acc ++ [(x, y)]) ++ wthG key val true (L.drop (k + 1)) = R0) := by
            show _ = _
            have := HE1.out
            rw [if_neg (by simp), if_neg hxk] at this
            simpa using this
          obtain ⟨e0, e1⟩ := two_cells (HX.out _ (Fr.refl _ _))
          clear hxk HE1
          have hA6 := HA1.out.same (Fr.box (wr.alloc (.cells #[.string x, .string y] 77)) (.cells #[.string x, .string y] 77))
          have FA6 := HF1.out.seq' (Fr.box (wr.alloc (.cells #[.string x, .string y] 77)) (.cells #[.string x, .string y] 77))
          have HHA6 : Hid (Acc V ((wr.alloc (.cells #[.string x, .string y] 77)).alloc (.cells #[.string x, .string y] 77)) a' (m) c' (acc)) := hA6
          have HFA6 : Hid (Fr (fun _ => False) V ((wr.alloc (.cells #[.string x, .string y] 77)).alloc (.cells #[.string x, .string y] 77))) := FA6
          have HFR6 : Hid (From ((wr.alloc (.cells #[.string x, .string y] 77)).alloc (.cells #[.string x, .string y] 77)) (some ⟨wr.heap.size + 1, 0, none⟩) (enC (x, y))) := by have := en_from (wr.alloc (.cells #[.string x, .string y] 77)) x y; rwa [show (wr.alloc (.cells #[.string x, .string y] 77)).heap.size = wr.heap.size + 1 by simp] at this
          clear hA6 FA6
          go_wp2_with (at_builtin; refine Hid.out (?_ : Hid _))
          unfold Hid
          refine wpList_append_has _ rfl (.tmp 41) (.tmp 43) 24 24 77 77 rfl iR _ 2 32 Tryz.underlying24 Tryz.underlying24 hiR hR0 hR1 hR2 rfl (by omega) (.slice a' (m) c') (m) ((acc).flatMap enC) rfl HHA6.out.has (some ⟨wr.heap.size + 1, 0, none⟩) 1 1 (enC (x, y)) rfl rfl HFR6.out (enC_one _) (by unfold maxLen; omega) (by omega) ?_
          intro a6 c6 w6 ht6 f6 hat6
          have HA6 : Hid (Acc V w6 a6 (m + 1) c6 (acc ++ [(x, y)])) := HHA6.out.next HFA6.out.size ht6 hat6
          have HF6 : Hid (Fr (fun _ => False) V w6) := HHA6.out.fr HFA6.out f6
          have HQ6 : Hid (Fr (fun k => (Value.slice a' (m) c').ownBlock = some k ∧ 0 < 1) ((wr.alloc (.cells #[.string x, .string y] 77)).alloc (.cells #[.string x, .string y] 77)) w6) := f6
          clear ht6 f6 hat6 HFR6
          have HE6 : Hid ((acc ++ [(x, y)]) ++ wthG key val true (L.drop (k + 1)) = R0) := HE7
          have HM6 : Hid (m + 1 ≤ if true = true then k + 1 + 1 else k + 1) := by show _ ≤ _; simp; omega
          clear p0 p1 p2 p3 p4 p5 p6 p7 q0 q1
          go_wp2
          go_roundw
          case rel => exact ⟨k + 1, m + 1, a6, c6, true, acc ++ [(x, y)], by omega, by go_num, rfl, rfl, by omega, HE6, HA6, HM6, HF6.out⟩
          case measure => simp [intOf]; omega
      | false =>
        generalize cp x key = z at *
        by_cases hz : z < 0
        · have hxk : x ≠ key := HNE.out hz
          have hm1 : m ≤ k := by have := HM.out; simpa using this
          have hq : (x.toList == key.toList) = false := by rw [beq_bytes]; simpa using hxk
          have hz2 : decide (0 ≤ z) = false := by simp; omega
          have HE7 : Hid ((acc ++ [(x, y)]) ++ wthG key val false (L.drop (k + 1)) = R0) := by
            show _ = _
            have := HE1.out
            rw [if_neg (by simp [hz]), if_neg hxk] at this
            simpa [hz] using this
          clear hxk HE1
          obtain ⟨e0, e1⟩ := two_cells (HX.out _ (Fr.refl _ _))
          go_wp2_with fail
          refine (hcp _).mono ?_
          rintro e w3 ⟨rfl, f3⟩
          have HF3 : Hid (Fr (fun _ => False) V w3) := HF1.out.seq' f3
          have HA3 : Hid (Acc V w3 a' m c' acc) := HA1.out.same f3
          obtain ⟨e0', e1'⟩ := two_cells (HX.out _ f3)
          obtain ⟨⟨r0, r1, r2, r3, r4, r5, r6, r7⟩, _⟩ := rec_cells (HB.out _ HF3.out)
          have hwz3 := lt_of_block (HB.out _ HF3.out)
          have hwx3 := lt_of_block (HX.out _ f3)
          clear hcp f3 e0 e1
          have hA6 := HA3.out.same (Fr.box w3 (.cells #[.string x, .string y] 77))
          have FA6 := HF3.out.seq' (Fr.box w3 (.cells #[.string x, .string y] 77))
          have HHA6 : Hid (Acc V (w3.alloc (.cells #[.string x, .string y] 77)) a' (m) c' (acc)) := hA6
          have HFA6 : Hid (Fr (fun _ => False) V (w3.alloc (.cells #[.string x, .string y] 77))) := FA6
          have HFR6 : Hid (From (w3.alloc (.cells #[.string x, .string y] 77)) (some ⟨w3.heap.size, 0, none⟩) (enC (x, y))) := en_from _ _ _
          clear hA6 FA6
          go_wp2_with (at_builtin; refine Hid.out (?_ : Hid _))
          unfold Hid
          refine wpList_append_has _ rfl (.tmp 41) (.tmp 43) 24 24 77 77 rfl iR _ 2 32 Tryz.underlying24 Tryz.underlying24 hiR hR0 hR1 hR2 rfl (by omega) (.slice a' (m) c') (m) ((acc).flatMap enC) rfl HHA6.out.has (some ⟨w3.heap.size, 0, none⟩) 1 1 (enC (x, y)) rfl rfl HFR6.out (enC_one _) (by unfold maxLen; omega) (by omega) ?_
          intro a6 c6 w6 ht6 f6 hat6
          have HA6 : Hid (Acc V w6 a6 (m + 1) c6 (acc ++ [(x, y)])) := HHA6.out.next HFA6.out.size ht6 hat6
          have HF6 : Hid (Fr (fun _ => False) V w6) := HHA6.out.fr HFA6.out f6
          have HQ6 : Hid (Fr (fun k => (Value.slice a' (m) c').ownBlock = some k ∧ 0 < 1) (w3.alloc (.cells #[.string x, .string y] 77)) w6) := f6
          clear ht6 f6 hat6 HFR6
          have HE6 : Hid ((acc ++ [(x, y)]) ++ wthG key val false (L.drop (k + 1)) = R0) := HE7
          have HM6 : Hid (m + 1 ≤ if false = true then k + 1 + 1 else k + 1) := by show _ ≤ _; simp; omega
          clear p0 p1 p2 p3 p4 p5 p6 p7 q0 q1 r0 r1 r2 r3 r4 r5 r6 r7
          go_wp2
          go_roundw
          case rel => exact ⟨k + 1, m + 1, a6, c6, false, acc ++ [(x, y)], by omega, by go_num, rfl, rfl, by omega, HE6, HA6, HM6, HF6.out⟩
          case measure => simp [intOf]; omega
        · have hm1 : m ≤ k := by have := HM.out; simpa using this
          have hz2 : decide (0 ≤ z) = true := by simp; omega
          obtain ⟨e0, e1⟩ := two_cells (HX.out _ (Fr.refl _ _))
          have HE5 : Hid ((acc ++ [(key, val)]) ++ ((if x = key then [] else [(x, y)]) ++ wthG key val true (L.drop (k + 1))) = R0) := by
            show _ = _
            have := HE1.out
            rw [if_pos ⟨rfl, hz⟩] at this
            simpa [hz] using this
          clear HE1
          go_wp2_with fail
          refine (hcp _).mono ?_
          rintro e w3 ⟨rfl, f3⟩
          have HF3 : Hid (Fr (fun _ => False) V w3) := HF1.out.seq' f3
          have HA3 : Hid (Acc V w3 a' m c' acc) := HA1.out.same f3
          have HX3 : Hid (∀ W, Fr (fun _ => False) w3 W → W.heap[wr.heap.size]? = some (.cells #[.string x, .string y] 77 (0, 0))) := fun W f => HX.out W (f3.seq' f)
          obtain ⟨⟨r0, r1, r2, r3, r4, r5, r6, r7⟩, _⟩ := rec_cells (HB.out _ HF3.out)
          have hwz3 := lt_of_block (HB.out _ HF3.out)
          have hwx3 := lt_of_block (HX.out _ f3)
          have hz3 := f3.size
          simp only [World.size_alloc] at hz3
          clear hcp f3 e0 e1
          have hA5 := HA3.out.same (Fr.box w3 (.cells #[.string key, .string val] 77))
          have FA5 := HF3.out.seq' (Fr.box w3 (.cells #[.string key, .string val] 77))
          have HHA5 : Hid (Acc V (w3.alloc (.cells #[.string key, .string val] 77)) a' (m) c' (acc)) := hA5
          have HFA5 : Hid (Fr (fun _ => False) V (w3.alloc (.cells #[.string key, .string val] 77))) := FA5
          have HFR5 : Hid (From (w3.alloc (.cells #[.string key, .string val] 77)) (some ⟨w3.heap.size, 0, none⟩) (enC (key, val))) := en_from _ _ _
          clear hA5 FA5
          go_wp2_with (at_builtin; refine Hid.out (?_ : Hid _))
          unfold Hid
          refine wpList_append_has _ rfl (.tmp 28) (.tmp 34) 24 24 77 77 rfl iR _ 2 32 Tryz.underlying24 Tryz.underlying24 hiR hR0 hR1 hR2 rfl (by omega) (.slice a' (m) c') (m) ((acc).flatMap enC) rfl HHA5.out.has (some ⟨w3.heap.size, 0, none⟩) 1 1 (enC (key, val)) rfl rfl HFR5.out (enC_one _) (by unfold maxLen; omega) (by omega) ?_
          intro a5 c5 w5 ht5 f5 hat5
          have HA5 : Hid (Acc V w5 a5 (m + 1) c5 (acc ++ [(key, val)])) := HHA5.out.next HFA5.out.size ht5 hat5
          have HF5 : Hid (Fr (fun _ => False) V w5) := HHA5.out.fr HFA5.out f5
          have HQ5 : Hid (Fr (fun k => (Value.slice a' (m) c').ownBlock = some k ∧ 0 < 1) (w3.alloc (.cells #[.string key, .string val] 77)) w5) := f5
          clear ht5 f5 hat5 HFR5
          have HX5 : Hid (w5.heap[wr.heap.size]? = some (.cells #[.string x, .string y] 77 (0, 0))) := HQ5.out.blk (HX3.out _ (Fr.box w3 _)) (fun e => HNO.out _ e.1 rfl)
          obtain ⟨e0', e1'⟩ := two_cells HX5.out
          obtain ⟨⟨t0, t1, t2, t3, t4, t5, t6, t7⟩, _⟩ := rec_cells (HB.out _ HF5.out)
          have hwz5 := lt_of_block (HB.out _ HF5.out)
          have hwx5 := lt_of_block HX5.out
          clear r0 r1 r2 r3 r4 r5 r6 r7
          by_cases hxk : x = key
          · have hq : (x.toList == key.toList) = true := by rw [beq_bytes]; simpa using hxk
            have HE7 : Hid ((acc ++ [(key, val)]) ++ wthG key val true (L.drop (k + 1)) = R0) := by
              show _ = _
              have := HE5.out
              rw [if_pos hxk] at this
              simpa using this
            have hq2 : (x.toList != key.toList) = false := by simp [hxk]
            clear hxk HE5
            have HE6 : Hid ((acc ++ [(key, val)]) ++ wthG key val true (L.drop (k + 1)) = R0) := HE7
            have HM6 : Hid (m + 1 ≤ if true = true then k + 1 + 1 else k + 1) := by show _ ≤ _; simp; omega
            clear p0 p1 p2 p3 p4 p5 p6 p7 q0 q1
            go_wp2
            go_roundw
            case rel => exact ⟨k + 1, m + 1, a5, c5, true, (acc ++ [(key, val)]), by omega, by go_num, rfl, rfl, by omega, HE6, HA5, HM6, HF5.out⟩
            case measure => simp [intOf]; omega
          · have hq : (x.toList == key.toList) = false := by rw [beq_bytes]; simpa using hxk
            have HE7 : Hid (((acc ++ [(key, val)]) ++ [(x, y)]) ++ wthG key val true (L.drop (k + 1)) = R0) := by
              show _ = _
              have := HE5.out
              rw [if_neg hxk] at this
              simpa using this
            clear hxk HE5
            have hA6 := HA5.out.same (Fr.box w5 (.cells #[.string x, .string y] 77))
            have FA6 := HF5.out.seq' (Fr.box w5 (.cells #[.string x, .string y] 77))
            have HHA6 : Hid (Acc V (w5.alloc (.cells #[.string x, .string y] 77)) a5 ((m + 1)) c5 ((acc ++ [(key, val)]))) := hA6
            have HFA6 : Hid (Fr (fun _ => False) V (w5.alloc (.cells #[.string x, .string y] 77))) := FA6
            have HFR6 : Hid (From (w5.alloc (.cells #[.string x, .string y] 77)) (some ⟨w5.heap.size, 0, none⟩) (enC (x, y))) := en_from _ _ _
            clear hA6 FA6
            go_wp2_with (at_builtin; refine Hid.out (?_ : Hid _))
            unfold Hid
            refine wpList_append_has _ rfl (.tmp 41) (.tmp 43) 24 24 77 77 rfl iR _ 2 32 Tryz.underlying24 Tryz.underlying24 hiR hR0 hR1 hR2 rfl (by omega) (.slice a5 ((m + 1)) c5) ((m + 1)) (((acc ++ [(key, val)])).flatMap enC) rfl HHA6.out.has (some ⟨w5.heap.size, 0, none⟩) 1 1 (enC (x, y)) rfl rfl HFR6.out (enC_one _) (by unfold maxLen; omega) (by omega) ?_
            intro a6 c6 w6 ht6 f6 hat6
            have HA6 : Hid (Acc V w6 a6 ((m + 1) + 1) c6 ((acc ++ [(key, val)]) ++ [(x, y)])) := HHA6.out.next HFA6.out.size ht6 hat6
            have HF6 : Hid (Fr (fun _ => False) V w6) := HHA6.out.fr HFA6.out f6
            have HQ6 : Hid (Fr (fun k => (Value.slice a5 ((m + 1)) c5).ownBlock = some k ∧ 0 < 1) (w5.alloc (.cells #[.string x, .string y] 77)) w6) := f6
            clear ht6 f6 hat6 HFR6
            have HE6 : Hid (((acc ++ [(key, val)]) ++ [(x, y)]) ++ wthG key val true (L.drop (k + 1)) = R0) := HE7
            have HM6 : Hid ((m + 1) + 1 ≤ if true = true then k + 1 + 1 else k + 1) := by show _ ≤ _; simp; omega
            clear p0 p1 p2 p3 p4 p5 p6 p7 q0 q1 t0 t1 t2 t3 t4 t5 t6 t7
            go_wp2
            go_roundw
            case rel => exact ⟨k + 1, (m + 1) + 1, a6, c6, true, (acc ++ [(key, val)]) ++ [(x, y)], by omega, by go_num, rfl, rfl, by omega, HE6, HA6, HM6, HF6.out⟩
            case measure => simp [intOf]; omega
    · obtain rfl : k = n := by omega
      have HE2 : Hid (acc ++ (if pb = true then [] else [(key, val)]) = R0) := by
        show _ = _
        rw [← HE.out, List.drop_of_length_le (by have := HN.out; omega)]
        rfl
      cases pb with
      | true =>
        have HOUT : Hid (EnOut w R0 (.returned (.slice a' m c')) wr) := by
          show EnOut _ _ _ _
          rw [← HE2.out, if_pos rfl]
          obtain ⟨a9, c9, h1, h2, h3, h4⟩ := HA.out.out HFV.out
          rw [List.append_nil]
          exact ⟨a9, c9, h1, h2, fun b off e => by have := h3 b off e; have := HFB.out.size; omega, HFB.out.seq' h4⟩
        go_wp2
        go_ret
        exact HOUT.out
      | false =>
        have hA5 := HA.out.same (Fr.box wr (.cells #[.string key, .string val] 77))
        have FA5 := HFV.out.seq' (Fr.box wr (.cells #[.string key, .string val] 77))
        have HHA5 : Hid (Acc V (wr.alloc (.cells #[.string key, .string val] 77)) a' (m) c' (acc)) := hA5
        have HFA5 : Hid (Fr (fun _ => False) V (wr.alloc (.cells #[.string key, .string val] 77))) := FA5
        have HFR5 : Hid (From (wr.alloc (.cells #[.string key, .string val] 77)) (some ⟨wr.heap.size, 0, none⟩) (enC (key, val))) := en_from _ _ _
        clear hA5 FA5
        go_wp2_with (at_builtin; refine Hid.out (?_ : Hid _))
        unfold Hid
        refine wpList_append_has _ rfl (.tmp 48) (.tmp 54) 24 24 77 77 rfl iR _ 2 32 Tryz.underlying24 Tryz.underlying24 hiR hR0 hR1 hR2 rfl (by omega) (.slice a' (m) c') (m) ((acc).flatMap enC) rfl HHA5.out.has (some ⟨wr.heap.size, 0, none⟩) 1 1 (enC (key, val)) rfl rfl HFR5.out (enC_one _) (by unfold maxLen; omega) (by omega) ?_
        intro a5 c5 w5 ht5 f5 hat5
        have HA5 : Hid (Acc V w5 a5 (m + 1) c5 (acc ++ [(key, val)])) := HHA5.out.next HFA5.out.size ht5 hat5
        have HF5 : Hid (Fr (fun _ => False) V w5) := HHA5.out.fr HFA5.out f5
        have HQ5 : Hid (Fr (fun k => (Value.slice a' (m) c').ownBlock = some k ∧ 0 < 1) (wr.alloc (.cells #[.string key, .string val] 77)) w5) := f5
        clear ht5 f5 hat5 HFR5
        have HOUT : Hid (EnOut w R0 (.returned (.slice a5 (m + 1) c5)) w5) := by
          show EnOut _ _ _ _
          rw [← HE2.out]
          obtain ⟨a9, c9, h1, h2, h3, h4⟩ := HA5.out.out HF5.out
          exact ⟨a9, c9, h1, h2, fun b off e => by have := h3 b off e; have := HFB.out.size; omega, HFB.out.seq' h4⟩
        clear p0 p1 p2 p3 p4 p5 p6 p7
        go_wp2
        go_ret
        exact HOUT.out
end Go.Proofs.YtdlnflcjodpkiaaGreat
