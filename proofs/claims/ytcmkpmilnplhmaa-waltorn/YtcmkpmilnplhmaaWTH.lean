
/- RcSpeak, RcCut, WlMath. -/
import Derived.Test.YtcmkpmilnplhmaaRcDec2
import Derived.Test.YtcmkpmilnplhmaaWlRead
/- That record speaks. -/
namespace Go.Proofs.Ytcmkpmilnplhmaa
open Go.RowKit Crcm

def r0 : Rec := ⟨1, 1, 1, 0, 0, 0, ⟨#[]⟩, ⟨#[]⟩⟩
theorem r0_ok : rok r0 = true := by decide +kernel
theorem r0_dec : rdec (frm r0) = (r0, 43, 0) := by
  have := rdec_frm r0 r0_ok []
  rw [List.append_nil, frm_length] at this
  exact this
end Go.Proofs.Ytcmkpmilnplhmaa

/- A frame that is cut, and one of which a bit is turned. -/
namespace Go.Proofs.Ytcmkpmilnplhmaa
open Go.RowKit Crcm

theorem rdec_cut (r : Rec) (h : rok r = true) (k : Nat) (hk : k < (frm r).length) : rdec ((frm r).take k) = (zr, 0, 10) := by
  have hl := frm_len r
  have hlt : ((frm r).take k).length = k := by rw [List.length_take]; omega
  unfold rdec
  by_cases h2 : k < 2
  · rw [if_pos (by omega)]
  · rw [if_neg (by omega)]
    have e : ((frm r).take k).take 2 = (frm r).take 2 := by rw [List.take_take, Nat.min_eq_left (by omega)]
    have e2 := frm_take2 h []
    rw [List.append_nil] at e2
    rw [e, e2, if_pos (by omega)]
theorem xor_ne (x p : Nat) (hp : p ≠ 0) : x ^^^ p ≠ x := by
  intro h
  have := congrArg (fun y => x ^^^ y) h
  simp only [← Nat.xor_assoc, Nat.xor_self, Nat.zero_xor] at this
  exact hp this
theorem rturn_cell (x m : Nat) (hx : x < 256) (hm : m < 8) : bits BinOp.xor IntKind.u8 (x : Int) (2 ^ m % 256) = ((x ^^^ 2 ^ m : Nat) : Int) := by
  have hp : 2 ^ m < 256 := Nat.pow_lt_pow_right (a := 2) (by omega) hm
  have e : ((2 : Int) ^ m % 256) = ((2 ^ m : Nat) : Int) := by
    have e1 : (2 : Int) ^ m = ((2 ^ m : Nat) : Int) := by simp
    rw [e1]
    generalize 2 ^ m = q at hp ⊢
    omega
  rw [e, u8_xor_nat _ _ hx hp]
theorem rocts_set {L : List Nat} (h : octs L) (j y : Nat) (hy : y < 256) : octs (L.set j y) := by
  intro x hx
  rcases List.mem_or_eq_of_mem_set hx with h1 | h1
  · exact h x h1
  · omega
theorem rxor_small {x m : Nat} (hx : x < 256) (hm : m < 8) : x ^^^ 2 ^ m < 256 := Nat.xor_lt_two_pow (n := 8) (by omega) (Nat.pow_lt_pow_right (a := 2) (by omega) hm)
theorem opened_turned (r : Rec) (k m : Nat) (hk : k < (frm r).length) (hm : m < 8) : (opened ((frm r).set k ((frm r).getD k 0 ^^^ 2 ^ m))).2 = 20 := by
  have hx := octs_getD (frm_octs r) k
  have hy := rxor_small hx hm
  have ho := rocts_set (frm_octs r) k _ hy
  have hxe : (frm r).getD k 0 = (frm r)[k] := by rw [List.getD_eq_getElem?_getD, List.getElem?_eq_getElem hk]; rfl
  have hr : reg 4294967295 (frm r) = steps 32 4294967295 := seal_reg _ (rh_octs r)
  have ht := reg_turn 4294967295 (frm r) k (2 ^ m) hk
  rw [← hxe, hr] at ht
  have h43 := frm_length r
  obtain ⟨L, hL⟩ : ∃ L, L = (frm r).set k ((frm r).getD k 0 ^^^ 2 ^ m) := ⟨_, rfl⟩
  have hLl : L.length = (frm r).length := by rw [hL, List.length_set]
  rw [← hL] at ht ho ⊢
  have hp : 2 ^ m < 256 := Nat.pow_lt_pow_right (a := 2) (by omega) hm
  have hp0 : 2 ^ m ≠ 0 := Nat.ne_of_gt (Nat.pow_pos (by omega))
  have hf : val (L.drop (L.length - 4)) ≠ crc (L.take (L.length - 4)) := by
    refine turned_found (L.take (L.length - 4)) (L.drop (L.length - 4)) (8 * ((frm r).length - k)) (2 ^ m) (octs_take ho _) (fun x hx => ho x (List.mem_of_mem_drop hx)) (by rw [List.length_drop]; omega) (by omega) hp0 ?_
    rw [List.take_append_drop]; exact ht
  unfold opened
  rw [if_neg (by omega), if_neg hf]
theorem rdec_turned (r : Rec) (h : rok r = true) (k m : Nat) (hk : k < (frm r).length) (hm : m < 8) : (rdec ((frm r).set k ((frm r).getD k 0 ^^^ 2 ^ m))).2.2 ≠ 0 := by
  intro h0
  have hx := octs_getD (frm_octs r) k
  have hy := rxor_small hx hm
  have ho := rocts_set (frm_octs r) k _ hy
  have hop := opened_turned r k m hk hm
  have hLk : ((frm r).set k ((frm r).getD k 0 ^^^ 2 ^ m)).getD k 0 = (frm r).getD k 0 ^^^ 2 ^ m := by
    rw [List.getD_eq_getElem?_getD, List.getElem?_set_self hk, Option.getD_some]
  have hd2 : k < 2 → ((frm r).set k ((frm r).getD k 0 ^^^ 2 ^ m)).drop 2 = (frm r).drop 2 := fun h2 => List.drop_set_of_lt h2
  have ht2 : 2 ≤ k → ((frm r).set k ((frm r).getD k 0 ^^^ 2 ^ m)).take 2 = (frm r).take 2 := fun h2 => List.take_set_of_le h2
  obtain ⟨L, hL⟩ : ∃ L, L = (frm r).set k ((frm r).getD k 0 ^^^ 2 ^ m) := ⟨_, rfl⟩
  have hLl : L.length = (frm r).length := by rw [hL, List.length_set]
  rw [← hL] at h0 hop ho hLk hd2 ht2
  obtain ⟨r', n', hrd⟩ : ∃ r' n', rdec L = (r', n', 0) := ⟨(rdec L).1, (rdec L).2.1, by rw [← h0]⟩
  obtain ⟨q1, q2, q3, q4⟩ := rdec_some L ho r' n' hrd
  have hsplit : L = frm r' ++ L.drop n' := by rw [← q4, List.take_append_drop]
  have e2 := frm_take2 h []
  rw [List.append_nil] at e2
  have e2' := frm_take2 q1 (L.drop n')
  rw [← hsplit] at e2'
  have l1 := frm_len r
  have l2 := frm_len r'
  by_cases h2 : k < 2
  · have hd : (frm r).drop 2 = rb r ++ le4 (crc (rh r)) := by
      unfold frm rh
      rw [List.append_assoc, List.drop_left' (le_length 2 _)]
    have hd' : (frm r').drop 2 = rb r' ++ le4 (crc (rh r')) := by
      unfold frm rh
      rw [List.append_assoc, List.drop_left' (le_length 2 _)]
    have hb : L.drop 2 = rb r' ++ (le4 (crc (rh r')) ++ L.drop n') := by
      conv => lhs; rw [hsplit]
      rw [List.drop_append_of_le_length (by omega), hd', List.append_assoc]
    have s1 := recS_fwd r (rok_rg h) 256 (by omega) (by omega) (le4 (crc (rh r)))
    rw [← hd, ← hd2 h2, hb, recS_fwd r' (rok_rg q1) 256 (by omega) (by omega)] at s1
    simp only [Prod.mk.injEq] at s1
    obtain ⟨rfl, _⟩ := s1
    have hn : n' = L.length := by omega
    have he : L = frm r' := by rw [← q4, hn, List.take_length]
    rw [he] at hLk
    exact xor_ne _ _ (Nat.ne_of_gt (Nat.pow_pos (by omega))) hLk.symm
  · rw [ht2 (by omega), e2] at e2'
    have hn : n' = L.length := by omega
    have he : L = frm r' := by rw [← q4, hn, List.take_length]
    rw [he, opened_frm] at hop
    simp at hop
end Go.Proofs.Ytcmkpmilnplhmaa

/- Logs that are torn, and logs with anything behind them. -/
namespace Go.Proofs.Ytcmkpmilnplhmaa
open Go.RowKit Crcm

theorem wl_take {ls : List Rec} (h : Wl ls) (k : Nat) : Wl (ls.take k) := by
  have key : ∀ (i : Nat) (r : Rec), (ls.take k)[i]? = some r → ls[i]? = some r := fun i r hr => by
    rw [List.getElem?_take] at hr
    split at hr
    · exact hr
    · simp at hr
  exact ⟨by rw [List.length_take]; have := h.big; omega, fun i r hr => h.each i r (key i r hr), fun i r s hr hs => h.up i r s (key i r hr) (key _ s hs)⟩
theorem wl_next {ls : List Rec} (h : Wl ls) (k : Nat) (r : Rec) (hr : ls[k]? = some r) : rok r = true ∧ r.lsn = ((ls.take k).length : Int) + 1 ∧ refus (ls.take k) r.ep = 0 := by
  have hk : k < ls.length := (List.getElem?_eq_some_iff.1 hr).1
  have hl : (ls.take k).length = k := by rw [List.length_take]; omega
  have h1 := h.each k r hr
  refine ⟨h1.1, by rw [h1.2, hl], ?_⟩
  unfold refus
  have hb := h.big
  have hle : ¬ r.ep < lastE (ls.take k) := by
    by_cases h0 : k = 0
    · subst h0
      have : lastE (ls.take 0) = 0 := rfl
      rw [this]
      have := (rok_rg h1.1).ep0
      omega
    · obtain ⟨s, hs⟩ : ∃ s, ls[k - 1]? = some s := ⟨_, List.getElem?_eq_getElem (by omega)⟩
      have h2 : (ls.take k)[(ls.take k).length - 1]? = some s := by rw [hl, List.getElem?_take, if_pos (by omega)]; exact hs
      rw [lastE_at h2]
      have := h.up (k - 1) s r hs (by rw [show k - 1 + 1 = k by omega]; exact hr)
      omega
  rw [if_neg hle, if_neg (by omega)]
/-- Of bytes that begin with a log's frames these are read first. -/
theorem rdAll_go (ls : List Rec) (h : Wl ls) (x : List Nat) (f : Nat) (k : Nat) (hk : k ≤ ls.length) : rdAll (lfr ls ++ x) (f + k) [] 0 = rdAll (lfr ls ++ x) f (ls.take k) (lfr (ls.take k)).length := by
  induction k generalizing f with
  | zero => rfl
  | succ k ih =>
    obtain ⟨r, hr, htk⟩ := take_one ls k (by omega)
    obtain ⟨q1, q2, q3⟩ := wl_next h k r hr
    rw [show f + (k + 1) = (f + 1) + k by omega, ih (f + 1) (by omega)]
    have hsplit : lfr ls ++ x = lfr (ls.take k) ++ (frm r ++ (lfr (ls.drop (k + 1)) ++ x)) := by
      have h1 : lfr ls = lfr (ls.take k) ++ lfr (ls.drop k) := by
        unfold lfr; rw [← List.flatMap_append, List.take_append_drop]
      rw [h1, lfr_drop ls k r hr]; simp only [List.append_assoc]
    have hd : rdec ((lfr ls ++ x).drop (lfr (ls.take k)).length) = (r, (frm r).length, 0) := by
      rw [hsplit, List.drop_left]; exact rdec_frm r q1 _
    have hm : more (lfr ls ++ x) (ls.take k) (lfr (ls.take k)).length = true := by
      rw [more_of hd]; exact decide_eq_true ⟨rfl, q2, q3⟩
    rw [rdAll_yes hd hm, htk, lfr_snoc, List.length_append]
theorem rdAll_ext (b : List Nat) (f : Nat) (ls : List Rec) (n : Nat) : ∃ t m, rdAll b f ls n = (ls ++ t, n + m) := by
  induction f generalizing ls n with
  | zero => exact ⟨[], 0, by simp [rdAll]⟩
  | succ f ih =>
    rw [rdAll]
    split
    · obtain ⟨t, m, e⟩ := ih (ls ++ [(rdec (b.drop n)).1]) (n + (rdec (b.drop n)).2.1)
      exact ⟨(rdec (b.drop n)).1 :: t, (rdec (b.drop n)).2.1 + m, by rw [e]; simp [Nat.add_assoc]⟩
    · exact ⟨[], 0, by simp⟩
theorem lfr_long {ls : List Rec} : ls.length ≤ (lfr ls).length := by
  induction ls with
  | nil => simp
  | cons r l ih => unfold lfr at *; rw [List.flatMap_cons, List.length_append, List.length_cons, frm_length]; omega
theorem wread_torn (ls : List Rec) (h : Wl ls) (y : List Nat) (hy : (rdec y).2.2 ≠ 0) : wread (lfr ls ++ y) = (ls, (lfr ls).length) := by
  unfold wread
  have hl := lfr_long (ls := ls)
  have e : (lfr ls ++ y).length + 1 = ((lfr ls ++ y).length + 1 - ls.length) + ls.length := by rw [List.length_append]; omega
  rw [e, rdAll_go ls h y _ ls.length (Nat.le_refl _), List.take_length]
  refine rdAll_no ?_
  unfold more
  rw [List.drop_left]
  exact decide_eq_false (fun h => hy h.1)
theorem wread_more (ls : List Rec) (h : Wl ls) (y : List Nat) : ∃ t m, wread (lfr ls ++ y) = (ls ++ t, (lfr ls).length + m) := by
  unfold wread
  have hl := lfr_long (ls := ls)
  have e : (lfr ls ++ y).length + 1 = ((lfr ls ++ y).length + 1 - ls.length) + ls.length := by rw [List.length_append]; omega
  rw [e, rdAll_go ls h y _ ls.length (Nat.le_refl _), List.take_length]
  exact rdAll_ext _ _ _ _
theorem rdec_empty : rdec [] = (zr, 0, 10) := by unfold rdec; rw [if_pos (by decide)]
/-- How many records are whole. -/
def whole (ls : List Rec) (cut : Nat) : Nat := ((List.range ls.length).filter (fun i => decide ((lfr (ls.take (i + 1))).length ≤ cut))).length
theorem lfr_mono (ls : List Rec) (i j : Nat) (h : i ≤ j) : (lfr (ls.take i)).length ≤ (lfr (ls.take j)).length := by
  have : lfr (ls.take j) = lfr (ls.take i) ++ lfr ((ls.take j).drop i) := by
    unfold lfr
    rw [← List.flatMap_append]
    congr 1
    have h2 : ls.take i = (ls.take j).take i := by rw [List.take_take, Nat.min_eq_left h]
    rw [h2, List.take_append_drop]
  rw [this, List.length_append]; omega
/-- What is left of a torn log: some whole records, and what is no frame. -/
theorem torn_split (ls : List Rec) (h : Wl ls) (cut : Nat) (hc : cut ≤ (lfr ls).length) : ∃ k y, k ≤ ls.length ∧ (lfr ls).take cut = lfr (ls.take k) ++ y ∧ (rdec y).2.2 ≠ 0 ∧ (lfr (ls.take k)).length ≤ cut ∧ (k < ls.length → cut < (lfr (ls.take (k + 1))).length) := by
  obtain ⟨k, hk, hle, hmax⟩ : ∃ k, k ≤ ls.length ∧ (lfr (ls.take k)).length ≤ cut ∧ (k < ls.length → cut < (lfr (ls.take (k + 1))).length) := by
    have key : ∀ m, m ≤ ls.length → ∃ k, k ≤ m ∧ (lfr (ls.take k)).length ≤ cut ∧ (k < m → cut < (lfr (ls.take (k + 1))).length) := by
      intro m
      induction m with
      | zero => intro _; exact ⟨0, Nat.le_refl _, by simp [lfr], fun h => absurd h (Nat.lt_irrefl _)⟩
      | succ m ih =>
        intro hm
        obtain ⟨k, h1, h2, h3⟩ := ih (by omega)
        by_cases hkm : k < m
        · exact ⟨k, by omega, h2, fun _ => h3 hkm⟩
        · have hke : k = m := by omega
          subst hke
          by_cases hc1 : (lfr (ls.take (k + 1))).length ≤ cut
          · exact ⟨k + 1, Nat.le_refl _, hc1, fun h => absurd h (Nat.lt_irrefl _)⟩
          · exact ⟨k, by omega, h2, fun _ => by omega⟩
    exact key ls.length (Nat.le_refl _)
  refine ⟨k, ((lfr ls).take cut).drop (lfr (ls.take k)).length, hk, ?_, ?_, hle, hmax⟩
  · have h1 : lfr ls = lfr (ls.take k) ++ lfr (ls.drop k) := by unfold lfr; rw [← List.flatMap_append, List.take_append_drop]
    have h2 : ((lfr ls).take cut).take (lfr (ls.take k)).length = lfr (ls.take k) := by
      rw [List.take_take, Nat.min_eq_left hle]
      conv => lhs; rw [h1]
      exact List.take_left
    conv => rhs; rw [← h2]
    rw [h2]
    conv => lhs; rw [← List.take_append_drop (lfr (ls.take k)).length ((lfr ls).take cut), h2]
  · by_cases hkl : k < ls.length
    · obtain ⟨r, hr, htk⟩ := take_one ls k hkl
      have hm := hmax hkl
      rw [htk, lfr_snoc, List.length_append] at hm
      have h1 : lfr ls = lfr (ls.take k) ++ (frm r ++ lfr (ls.drop (k + 1))) := by
        rw [← lfr_drop ls k r hr]; unfold lfr; rw [← List.flatMap_append, List.take_append_drop]
      have h2 : ((lfr ls).take cut).drop (lfr (ls.take k)).length = (frm r).take (cut - (lfr (ls.take k)).length) := by
        rw [List.drop_take, h1, List.drop_left, List.take_append_of_le_length (by omega)]
      rw [h2, rdec_cut r (h.each k r hr).1 _ (by omega)]
      decide
    · have hke : k = ls.length := by omega
      have : ((lfr ls).take cut).drop (lfr (ls.take k)).length = [] := by
        rw [hke, List.take_length]
        exact List.drop_eq_nil_of_le (by rw [List.length_take]; omega)
      rw [this, rdec_empty]
      decide
end Go.Proofs.Ytcmkpmilnplhmaa
