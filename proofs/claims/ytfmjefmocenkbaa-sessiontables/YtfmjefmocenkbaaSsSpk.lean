
/- Three requests, of which two settle. -/
import Derived.Test.YtfmjefmocenkbaaSsSes
import Derived.Test.YtfmjefmocenkbaaQuPl2
namespace Go.Proofs.Ytfmjefmocenkbaa
open Go.RowKit

set_option maxRecDepth 100000 in
set_option maxHeartbeats 4000000 in
theorem ssspk_any (w : World) : Calls Try.prog 19 #[] w fun e w' => e = .returned (.bool true) ∧ Fr (fun _ => False) w w' := by
  go_enter Try.func19, Try.ntmps19
  go_wp2_with fail
  refine (snew_any w).mono ?_
  rintro e w1 ⟨b, rfl, hb, T1, F1⟩
  have N1 : ∀ i, i = b → w.heap.size ≤ i := fun i e => by omega
  clear hb
  go_wp2_with fail
  refine (wait_any 7 3 w1 T1 (by simp)).mono ?_
  rintro e w2 ⟨rfl, S2, P2, T2, G2⟩
  rw [show waE [] [] 7 3 = 0 by decide]
  rw [show waL [] [] 7 3 = [(7, 3)] by decide] at T2
  have F2 : Fr (fun _ => False) w w2 := F1.trans G2 (fun i hi e => by have := N1 i e; omega)
  have N2 : ∀ i, S2 i → w.heap.size ≤ i := fun i h => by rcases P2 i h with h | h; exact N1 i h; have := F1.size; omega
  clear T1 F1 P2 G2 N1
  go_wp2_with fail
  refine (wait_any 5 3 w2 T2 (by simp)).mono ?_
  rintro e w3 ⟨rfl, S3, P3, T3, G3⟩
  rw [show waE [(7, 3)] [] 5 3 = 0 by decide]
  rw [show waL [(7, 3)] [] 5 3 = [(5, 3), (7, 3)] by decide] at T3
  have F3 : Fr (fun _ => False) w w3 := F2.trans G3 (fun i hi e => by have := N2 i e; omega)
  have N3 : ∀ i, S3 i → w.heap.size ≤ i := fun i h => by rcases P3 i h with h | h; exact N2 i h; have := F2.size; omega
  clear T2 F2 P3 G3 N2
  go_wp2_with fail
  refine (wait_any 9 4 w3 T3 (by simp)).mono ?_
  rintro e w4 ⟨rfl, S4, P4, T4, G4⟩
  rw [show waE [(5, 3), (7, 3)] [] 9 4 = 0 by decide]
  rw [show waL [(5, 3), (7, 3)] [] 9 4 = [(5, 3), (7, 3), (9, 4)] by decide] at T4
  have F4 : Fr (fun _ => False) w w4 := F3.trans G4 (fun i hi e => by have := N3 i e; omega)
  have N4 : ∀ i, S4 i → w.heap.size ≤ i := fun i h => by rcases P4 i h with h | h; exact N3 i h; have := F3.size; omega
  clear T3 F3 P4 G4 N3
  go_wp2_with fail
  refine (settle_any 3 w4 T4 (by simp) (by simp)).mono ?_
  rintro e w5 ⟨p5, k5, rfl, R5, T5, G5⟩
  rw [show tkR 3 [(5, 3), (7, 3), (9, 4)] = [5, 7] by decide] at R5 T5 ⊢
  rw [show rsL 3 [(5, 3), (7, 3), (9, 4)] = [(9, 4)] by decide] at T5
  rw [show [(5 : Int), 7].length = 2 from rfl]
  have R5' : Is w5 p5 k5 [5, 7] := R5.is
  have hs5 := R5.at_
  have F5 : Fr (fun _ => False) w w5 := F4.trans G5 (fun i hi e => by have := N4 i e; omega)
  have D5 : ∀ i, S4 i → i < w4.heap.size := T4.lt
  have HR5 : Hid (∀ (R : Nat → Prop) W, Fr R w5 W → (∀ i, R i → i < w4.heap.size ∨ w5.heap.size ≤ i) → Ir W w4.heap.size p5 k5 [5, 7]) := fun R W f hR => R5.fr f (fun i h1 h2 h3 => by rcases hR i h3 with h | h <;> omega)
  clear T4 F4 G5 R5 R5' hs5
  go_wp2_with fail
  refine (wait_any 7 9 w5 T5 (by simp)).mono ?_
  rintro e w6 ⟨rfl, S6, P6, T6, G6⟩
  rw [show waE [(9, 4)] ([] ++ [5, 7]) 7 9 = 7 by decide]
  rw [show waL [(9, 4)] ([] ++ [5, 7]) 7 9 = [(9, 4)] by decide] at T6
  have F6 : Fr (fun _ => False) w w6 := F5.trans G6 (fun i hi e => by have := N4 i e; omega)
  have N6 : ∀ i, S6 i → w.heap.size ≤ i := fun i h => by rcases P6 i h with h | h; exact N4 i h; have := F5.size; omega
  have D6 : ∀ i, S6 i → i < w4.heap.size ∨ w5.heap.size ≤ i := fun i h => (P6 i h).imp (D5 i) id
  have G6' : Fr (fun i => i < w4.heap.size ∨ w5.heap.size ≤ i) w5 w6 := G6.mono (fun i _ h => .inl (D5 i h))
  have s56 := G6.size
  clear T5 F5 P6 G6 N4 D5
  go_wp2_with fail
  refine (leave_any w6 T6 (by simp)).mono ?_
  rintro e w7 ⟨p7, k7, rfl, R7, T7, G7⟩
  rw [show [((9 : Int), (4 : Int))].map Prod.fst = [9] from rfl] at R7 ⊢
  rw [show [(9 : Int)].length = 1 from rfl]
  have F7 : Fr (fun _ => False) w w7 := F6.trans G7 (fun i hi e => by have := N6 i e; omega)
  have G7' : Fr (fun i => i < w4.heap.size ∨ w5.heap.size ≤ i) w5 w7 := G6'.trans (G7.mono (T := fun i => i < w4.heap.size ∨ w5.heap.size ≤ i) (fun i _ h => D6 i h)) (fun _ _ e => e)
  have R5 := HR5.out _ _ G7' (fun _ h => h)
  have HI5 : Hid (∀ W, Fr (fun _ => False) w7 W → Is W p5 k5 [5, 7]) := fun W f => R5.is.same f
  have HI7 : Hid (∀ W, Fr (fun _ => False) w7 W → Is W p7 k7 [9]) := fun W f => R7.is.same f
  clear T6 F6 G7 G6' G7' R5 R7 T7 N6 D6 s56 HR5
  go_wp2_with fail
  refine (begin_any w7).mono ?_
  rintro e w8 ⟨sb, rfl, hsb, M8, F8⟩
  have hsl : w7.heap.size ≤ sb := by omega
  have HFF : Hid (Fr (fun _ => False) w w7) := F7
  clear F7 hsb
  go_wp2_with fail
  refine (read_any 1 4 w8 M8 rfl).mono ?_
  rintro e w9 ⟨rfl, M9, F9⟩
  rw [show rdB [0, 0, 0, 0, 0, 0, 0] 1 4 = true by decide, show rdE 1 4 = 0 by decide]
  rw [show rdF [0, 0, 0, 0, 0, 0, 0] 1 4 = [0, 4, 0, 0, 0, 0, 0] by decide] at M9
  have F79 : Fr (fun _ => False) w7 w9 := F8.trans F9 (fun i hi e => by omega)
  clear M8 F8 F9
  go_wp2_with fail
  refine (read_any 1 3 w9 M9 rfl).mono ?_
  rintro e wa ⟨rfl, Ma, Fa⟩
  rw [show rdB [0, 4, 0, 0, 0, 0, 0] 1 3 = false by decide, show rdE 1 3 = 0 by decide]
  rw [show rdF [0, 4, 0, 0, 0, 0, 0] 1 3 = [0, 4, 0, 0, 0, 0, 0] by decide] at Ma
  have F7a : Fr (fun _ => False) w7 wa := F79.trans Fa (fun i hi e => by omega)
  clear M9 F79 Fa hsl
  have L5 := is_lit wa [5, 7] (by simp)
  rw [show ([(5 : Int), 7].map zI).toArray = #[.int .i64 5, .int .i64 7] from rfl] at L5
  have FB := Fr.box wa (.cells #[.int .i64 5, .int .i64 7] 3)
  have c5 : Calls Try.prog 11 #[.slice p5 2 k5, .slice (some ⟨wa.heap.size, 0, none⟩) 2 2] (wa.alloc (.cells #[.int .i64 5, .int .i64 7] 3)) _ := plain_is p5 (some ⟨wa.heap.size, 0, none⟩) k5 2 [5, 7] _ (HI5.out _ (F7a.seq' FB)) L5
  have HFB : Hid (Fr (fun _ => False) w7 (wa.alloc (.cells #[.int .i64 5, .int .i64 7] 3))) := F7a.seq' FB
  have HMB : Hid (Nums (wa.alloc (.cells #[.int .i64 5, .int .i64 7] 3)) sb 69 [0, 4, 0, 0, 0, 0, 0]) := Ma.fr FB (fun f => f)
  clear FB F7a Ma L5 HI5
  go_wp2_with fail
  refine c5.mono ?_
  rintro e wb ⟨rfl, Fb⟩
  have HFb : Hid (Fr (fun _ => False) w7 wb) := HFB.out.seq' Fb
  have HMb : Hid (Nums wb sb 69 [0, 4, 0, 0, 0, 0, 0]) := HMB.out.fr Fb (fun f => f)
  have L7 := is_lit wb [9] (by simp)
  rw [show ([(9 : Int)].map zI).toArray = #[.int .i64 9] from rfl] at L7
  have FC := Fr.box wb (.cells #[.int .i64 9] 3)
  have c7 : Calls Try.prog 11 #[.slice p7 1 k7, .slice (some ⟨wb.heap.size, 0, none⟩) 1 1] (wb.alloc (.cells #[.int .i64 9] 3)) _ := plain_is p7 (some ⟨wb.heap.size, 0, none⟩) k7 1 [9] _ (HI7.out _ (HFb.out.seq' FC)) L7
  have HFc : Hid (Fr (fun _ => False) w7 (wb.alloc (.cells #[.int .i64 9] 3))) := HFb.out.seq' FC
  have HMc : Hid (Nums (wb.alloc (.cells #[.int .i64 9] 3)) sb 69 [0, 4, 0, 0, 0, 0, 0]) := HMb.out.fr FC (fun f => f)
  clear FC Fb L7 c5 HI7 HFB HMB
  go_wp2_with fail
  refine c7.mono ?_
  rintro e wd ⟨rfl, Fd⟩
  have HFd : Hid (Fr (fun _ => False) w wd) := HFF.out.seq' (HFc.out.seq' Fd)
  have fl := floor_any 1 wd (HMc.out.fr Fd (fun f => f)) rfl
  rw [show (if ndB 1 = true then flN [0, 4, 0, 0, 0, 0, 0] 1 else 0) = 4 by decide] at fl
  clear c7 Fd HFc HMc HFF HFb HMb
  go_wp2_with (go_at_call 25; refine fl.mono ?_; rintro e we ⟨rfl, rfl⟩)
  go_ret
  exact ⟨rfl, HFd.out⟩
end Go.Proofs.Ytfmjefmocenkbaa
