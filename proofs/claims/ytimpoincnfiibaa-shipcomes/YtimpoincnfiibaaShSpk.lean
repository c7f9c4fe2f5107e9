
/- The small case that each statement asks first. -/
import Derived.Test.YtimpoincnfiibaaShTakeY
import Derived.Test.YtimpoincnfiibaaShSend
import Derived.Laws.StructEq
namespace Go.Proofs.Ytimpoincnfiibaa
open Go.RowKit Crcm

theorem take_any (lb : Nat) (rv : Value) (ls : List Rec) (me ml : Int) (a : Option Addr) (n c : Nat) (rs : List Rec) (hn : n = rs.length) (hfew : rs.length ≤ 1759218604442) (w : World) (hl : Lg w lb rv ls 0) (hw : Wl ls) (h : Recs w a c rs) (hoff : ∀ k, lgS lb rv k → ∀ b o, a = some ⟨b, o, none⟩ → rs ≠ [] → k ≠ b) :
    Calls Try.prog 10 #[.pointer (some ⟨lb, 0, none⟩), .agg #[.int .i64 me, .int .i64 ml], .slice a n c] w (TkOut w lb rv (takeR ls me ml rs)) := by
  by_cases hE : lkE ls me ml rs = 0
  · exact take_yes lb rv ls me ml a n c rs hn hfew w hl hw h hoff hE
  · exact take_no lb rv ls me ml a n c rs hn hfew w hl hw h hE
def np (l e : Int) : Rec := ⟨l, e, 1, 0, 0, 0, ⟨#[]⟩, ⟨#[]⟩⟩
theorem noop_any (e : Int) (w : World) : Calls Try.prog 19 #[.int .i64 e] w fun x w' => x = .returned (.agg #[.int .i64 0, .int .i64 e, .int .i64 1, .int .i64 0, .int .i64 0, .int .i64 0, .string ⟨#[]⟩, .string ⟨#[]⟩]) ∧ Fr (fun _ => False) w w' := by
  have f := Fr.box w (.cells #[.int .i64 0, .int .i64 e, .int .i64 1, .int .i64 0, .int .i64 0, .int .i64 0, .string ⟨#[]⟩, .string ⟨#[]⟩] 47)
  obtain ⟨⟨d0, d1, d2, d3, d4, d5, d6, d7⟩, _⟩ := rec_cells (heap_alloc_new w (.cells #[.int .i64 0, .int .i64 e, .int .i64 1, .int .i64 0, .int .i64 0, .int .i64 0, .string ⟨#[]⟩, .string ⟨#[]⟩] 47))
  go_enter Try.func19, Try.ntmps19
  go_wp2
  refine bodyPost_ret (v := .agg #[.int .i64 0, .int .i64 e, .int .i64 1, .int .i64 0, .int .i64 0, .int .i64 0, .string ⟨#[]⟩, .string ⟨#[]⟩]) (by simp [results, Try.results19, go_sem, d0, d1, d2, d3, d4, d5, d6, d7]) rfl ?_
  exact ⟨rfl, f⟩
theorem spA : apL [] (np 0 1) = [np 1 1] := by unfold apL; rw [if_pos (by decide +kernel)]; rfl
theorem spB : apL [np 1 1] (np 0 1) = [np 1 1, np 2 1] := by unfold apL; rw [if_pos (by decide +kernel)]; rfl
theorem spC : apL [np 1 1, np 2 1] (np 0 2) = [np 1 1, np 2 1, np 3 2] := by unfold apL; rw [if_pos (by decide +kernel)]; rfl
theorem spD : apL [np 1 1, np 2 1] (np 3 3) = [np 1 1, np 2 1, np 3 3] := by unfold apL; rw [if_pos (by decide +kernel)]; rfl
theorem wlA : Wl [np 1 1] := spA ▸ wl_ap wl_nil (np 0 1)
theorem wlB : Wl [np 1 1, np 2 1] := spB ▸ wl_ap wlA (np 0 1)
theorem wlC : Wl [np 1 1, np 2 1, np 3 2] := spC ▸ wl_ap wlB (np 0 2)
theorem wlD : Wl [np 1 1, np 2 1, np 3 3] := spD ▸ wl_ap wlB (np 3 3)
theorem tkA : takeR [np 1 1, np 2 1, np 3 2] 1 2 [np 3 3] = ([np 1 1, np 2 1, np 3 3], 3, true, 0) := by
  unfold takeR
  rw [if_pos (by decide +kernel)]
  unfold tkR
  rw [if_pos (by decide +kernel)]
  have : oneL [np 1 1, np 2 1, np 3 2] (np 3 3) = [np 1 1, np 2 1, np 3 3] := by
    unfold oneL
    rw [if_neg (by decide +kernel), if_pos (by decide +kernel)]
    exact spD
  rw [this]
  have h2 : oneC [np 1 1, np 2 1, np 3 2] (np 3 3) = true := by decide +kernel
  rw [h2]; rfl
theorem tkB : takeR [np 1 1, np 2 1, np 3 3] 2 2 [] = ([np 1 1, np 2 1, np 3 3], 0, false, 200) := by
  unfold takeR
  have : lkE [np 1 1, np 2 1, np 3 3] 2 2 [] = 200 := by decide +kernel
  rw [this]; rfl
theorem gtA : gtR [np 1 1, np 2 1, np 3 3] (3 - 1) = np 2 1 := by unfold gtR; rw [if_pos (by decide)]; rfl
theorem frA : frF [np 1 1, np 2 1, np 3 3] 3 9 = [np 3 3] := by unfold frF; rfl
theorem eql_mark (x y x' y' : Int) (w : World) : (binOp .eql 36 (.agg #[.int .i64 x, .int .i64 y]) (.agg #[.int .i64 x', .int .i64 y'])).run Try.prog w = .ok (.bool (decide (x = x' ∧ y = y'))) w := by
  have hf : Try.prog.stoodInHeld 36 = false := by kernel_rfl
  have hu : Try.prog.underlying 36 = some (.struct (Try.prog.fieldsOf 36)) := by kernel_rfl
  rw [run_eql_struct, run_equalIn_struct _ _ _ _ _ hu hf]
  by_cases h1 : x = x' <;> by_cases h2 : y = y' <;> simp [Op.eqFields, go_sem, h1, h2]
theorem lg_step {w W W' : World} {lb : Nat} {rv : Value} {L : List Rec} (F : Fr (fun _ => False) w W) (ho : ∀ k, lgS lb rv k → w.heap.size ≤ k) (t : LgTo W lb rv L W') : ∃ rv', Lg W' lb rv' L 0 ∧ (∀ k, lgS lb rv' k → w.heap.size ≤ k) ∧ Fr (fun _ => False) w W' := by
  obtain ⟨rv', h1, h2, h3⟩ := t
  refine ⟨rv', h1, ?_, F.trans h2 (fun i hi e => by have := ho i e; omega)⟩
  have hz := F.size
  rintro k (e | e)
  · exact ho k (.inl e)
  · rcases h3 with h3 | ⟨g, h3, hg⟩
    · exact ho k (.inr (by rw [← h3]; exact e))
    · rw [e] at h3; cases h3; omega
theorem recs_one (w : World) (r : Rec) : Recs (w.alloc (.cells #[.int .i64 r.lsn, .int .i64 r.ep, .int .i64 r.kind, .int .i64 r.page, .int .i64 r.other, .int .i64 r.req, .string r.key, .string r.val] 47)) (some ⟨w.heap.size, 0, none⟩) 1 [r] := by
  refine ⟨by simp, by omega, .inr ⟨w.heap.size, 0, rfl, by simp, fun i m hm => range_block (heap_alloc_new w _) (fun j z hz => ?_)⟩⟩
  match i, hm with
  | 0, hm =>
    simp at hm
    subst hm
    rw [Nat.zero_mul, Nat.add_zero, Nat.zero_add]
    simpa [recC] using hz
set_option maxRecDepth 100000 in
set_option maxHeartbeats 4000000 in
theorem shspk_any (w : World) : Calls Try.prog 7 #[] w fun e w' => e = .returned (.bool true) ∧ Fr (fun _ => False) w w' := by
  have hnew := wnew_any w
  have hnp := noop_any
  go_enter Try.func7, Try.ntmps7
  go_wp2_with fail
  refine hnew.mono ?_
  rintro e w1 ⟨rfl, l1, f1, z1⟩
  have o1 : ∀ k, lgS w.heap.size (.slice none 0 0) k → w.heap.size ≤ k := by
    rintro k (e | e)
    · omega
    · cases e
  clear hnew z1
  obtain ⟨lb, hlb⟩ : ∃ lb, lb = w.heap.size := ⟨_, rfl⟩
  rw [← hlb] at l1 o1 ⊢
  have HO1 : Hid (∀ k, lgS lb (.slice none 0 0) k → w.heap.size ≤ k) := by rw [hlb] at o1 ⊢; exact o1
  clear hlb o1
  go_wp2_with fail
  refine (hnp 1 _).mono ?_
  rintro e w2 ⟨rfl, f2⟩
  have F2 := f1.seq' f2
  have hap := append_lg (np 0 1) lb _ [] 0 _ (l1.same f2) wl_nil
  rw [spA] at hap
  clear l1 f1 f2
  go_wp2_with fail
  refine hap.mono ?_
  rintro e w3 ⟨rfl, t3⟩
  obtain ⟨rv3, l3, o3, F3⟩ := lg_step F2 HO1.out t3
  clear hap t3 F2 HO1
  go_wp2_with fail
  refine (hnp 1 _).mono ?_
  rintro e w4 ⟨rfl, f4⟩
  have F4 := F3.seq' f4
  have hap := append_lg (np 0 1) lb _ _ 0 _ (l3.same f4) wlA
  rw [spB] at hap
  clear l3 F3 f4
  go_wp2_with fail
  refine hap.mono ?_
  rintro e w5 ⟨rfl, t5⟩
  obtain ⟨rv5, l5, o5, F5⟩ := lg_step F4 o3 t5
  clear hap t5 F4 o3
  go_wp2_with fail
  refine (hnp 2 _).mono ?_
  rintro e w6 ⟨rfl, f6⟩
  have F6 := F5.seq' f6
  have hap := append_lg (np 0 2) lb _ _ 0 _ (l5.same f6) wlB
  rw [spC] at hap
  clear l5 F5 f6
  go_wp2_with fail
  refine hap.mono ?_
  rintro e w7 ⟨rfl, t7⟩
  obtain ⟨rv7, l7, o7, F7⟩ := lg_step F6 o5 t7
  clear hap t7 F6 o5
  go_wp2_with fail
  refine (hnp 3 _).mono ?_
  rintro e w8 ⟨rfl, f8⟩
  have l8 := l7.same f8
  have F8 := F7.seq' f8
  clear l7 F7 f8
  obtain ⟨A, hA⟩ : ∃ A, A = w8.alloc (.cells #[.int .i64 3, .int .i64 3, .int .i64 1, .int .i64 0, .int .i64 0, .int .i64 0, .string ⟨#[]⟩, .string ⟨#[]⟩] 47) := ⟨_, rfl⟩
  have zA : A.heap.size = w8.heap.size + 1 := by rw [hA]; simp
  have hrc : Recs (A.alloc (.cells #[.int .i64 3, .int .i64 3, .int .i64 1, .int .i64 0, .int .i64 0, .int .i64 0, .string ⟨#[]⟩, .string ⟨#[]⟩] 47)) (some ⟨A.heap.size, 0, none⟩) 1 [np 3 3] := recs_one A (np 3 3)
  rw [zA] at hrc
  have fA : Fr (fun _ => False) w8 (A.alloc (.cells #[.int .i64 3, .int .i64 3, .int .i64 1, .int .i64 0, .int .i64 0, .int .i64 0, .string ⟨#[]⟩, .string ⟨#[]⟩] 47)) := by rw [hA]; exact (Fr.box _ _).seq' (Fr.box _ _)
  have hOL : ∀ k, lgS lb rv7 k → k < w8.heap.size := by
    rintro k (e | e)
    · rw [e]; exact lt_of_block l8.box
    · exact l8.has.lt e
  have htk := take_any lb rv7 _ 1 2 (some ⟨w8.heap.size + 1, 0, none⟩) 1 1 [np 3 3] rfl (by simp) _ (l8.same fA) wlC hrc (fun k e b o hb _ => by have := hOL k e; cases hb; omega)
  rw [tkA] at htk
  rw [hA] at htk fA
  have F9 := F8.seq' fA
  clear hA zA hrc fA hOL l8 F8
  go_wp2_with fail
  refine htk.mono ?_
  rintro e w9 ⟨rfl, t9⟩
  obtain ⟨rv9, l9, o9, F9'⟩ := lg_step F9 o7 t9
  clear htk t9 F9 o7
  have htk := take_no lb rv9 _ 2 2 none 0 0 [] rfl (by simp) w9 l9 wlD (recs_nil _ _ _ (by omega)) (by decide +kernel)
  rw [tkB] at htk
  clear l9
  go_wp2_with fail
  refine htk.mono ?_
  rintro e w10 ⟨rfl, t10⟩
  obtain ⟨rv10, l10, o10, F10⟩ := lg_step F9' o9 t10
  clear htk t10 F9' o9
  go_wp2_with fail
  refine (snew_yes 3 (by omega) (by omega) _).mono ?_
  rintro e w11 ⟨rfl, T11, f11⟩
  have l11 := l10.same f11
  have F11 := F10.seq' f11
  have hsd := send_any w10.heap.size 3 0 9 (by omega) (by omega) lb rv10 _ 0 w11 T11 l11 (by simp)
  have HSD : Hid (∀ e w', SdOut w11 [np 1 1, np 2 1, np 3 3] 3 9 e w' → ∃ a c, e = .returned (.tuple #[.agg #[.int .i64 1, .int .i64 2], .slice a 1 c]) ∧ Recs w' a c [np 3 3] ∧ Fr (fun _ => False) w11 w') := fun e w' h => by
    obtain ⟨a, c, h1, h2, _, h4⟩ := h
    rw [gtA, frA] at h1
    rw [frA] at h2
    exact ⟨a, c, h1, h2, h4⟩
  clear l10 f11 F10 T11 l11 o10
  go_wp2_with fail
  refine hsd.mono ?_
  intro e w12 hout
  obtain ⟨a, c, rfl, rc, f12⟩ := HSD.out e w12 hout
  obtain ⟨b, off, rfl, hb, hc⟩ := rc.some (by simp)
  have fM := Fr.box w12 (.cells #[.int .i64 1, .int .i64 2] 36)
  obtain ⟨q0, q1, q2, q3, q4, q5, q6, q7⟩ := rec_range (range_fr (hc 0 (np 3 3) rfl) fM (fun f => f))
  rw [Nat.zero_mul, Nat.add_zero] at q1
  have q1' : (w12.alloc (.cells #[.int .i64 1, .int .i64 2] 36)).cell? ⟨b, off + 1, none⟩ = some (.int .i64 3) := q1
  have hcl := rc.le
  have hcx := rc.max
  obtain ⟨m0, m1, _⟩ := (Two.new w12 36 (.int .i64 1) (.int .i64 2)).cells
  have FE := (F11.seq' f12).seq' fM
  have heq := fun W => eql_mark 1 2 1 2 W
  clear q0 q1 q2 q3 q4 q5 q6 q7 hc hout hsd HSD rc f12 fM F11
  go_wp2
  go_ret
  exact ⟨by simp, FE⟩
end Go.Proofs.Ytimpoincnfiibaa
