
/- What Encode tells of any promise. -/
import Derived.Test.YtbfkacahaocpfaaVcRDec
import Derived.Test.YtbfkacahaocpfaaVtArg
namespace Go.Proofs.Ytbfkacahaocpfaa
open Go.RowKit Crcm

def encV (e f : Int) : List Nat × Int := if rgtB e f = true then (prF e f, 0) else ([], 1)
theorem encode_all (e f : Int) (w : World) : Calls Try.prog 8 #[.agg #[.int .i64 e, .int .i64 f]] w fun r w' => ∃ a c, r = .returned (.tuple #[.slice a (encV e f).1.length c, .int .i64 (encV e f).2]) ∧ Row w' a c (encV e f).1 ∧ Fr (fun _ => False) w w' := by
  by_cases h : rgtB e f = true
  · refine (encode_vyes e f h w).mono ?_
    rintro r w' ⟨v, rfl, m⟩
    have he : encV e f = (prF e f, 0) := if_pos h
    rw [he]
    obtain ⟨a, c, rfl, hr⟩ := m.own.row (prF_octs e f) (by rw [prF_length]; omega)
    exact ⟨a, c, rfl, hr, m.fr⟩
  · refine (encode_vno e f (by simpa using h) w).mono ?_
    rintro r w' ⟨rfl, fr⟩
    have he : encV e f = ([], 1) := if_neg h
    rw [he]
    exact ⟨none, 0, rfl, ⟨by simp, by omega, by simp, octs_nil, .inl rfl⟩, fr⟩
theorem rencode_all (e f : Int) (w : World) : Calls Try.prog 9 #[.agg #[.int .i64 e, .int .i64 f]] w fun r w' => ∃ a c, r = .returned (.tuple #[.slice a (encV e f).1.length c, .int .i64 (encV e f).2]) ∧ Row w' a c (encV e f).1 ∧ Fr (fun _ => False) w w' := by
  by_cases h : rgtB e f = true
  · refine (rencode_vyes e f h w).mono ?_
    rintro r w' ⟨v, rfl, m⟩
    have he : encV e f = (prF e f, 0) := if_pos h
    rw [he]
    obtain ⟨a, c, rfl, hr⟩ := m.own.row (prF_octs e f) (by rw [prF_length]; omega)
    exact ⟨a, c, rfl, hr, m.fr⟩
  · refine (rencode_vno e f (by simpa using h) w).mono ?_
    rintro r w' ⟨rfl, fr⟩
    have he : encV e f = ([], 1) := if_neg h
    rw [he]
    exact ⟨none, 0, rfl, ⟨by simp, by omega, by simp, octs_nil, .inl rfl⟩, fr⟩
theorem val_le8 (n : Nat) (h : n < 18446744073709551616) : val (le 8 n) = n := by
  simp [le, val]
  omega
theorem val_le4 (v : Nat) (h : v < 4294967296) : val (le4 v) = v := by
  simp [le4, val]
  omega
/-- A promise's bytes are read as it. -/
theorem decV_prF (e f : Int) (h : rgtB e f = true) : decV (prF e f) = ((e, f), 0) := by
  obtain ⟨h0, h1, h2, h3⟩ := rgt_iff h
  have hl := prF_length e f
  have ht : (prF e f).take 13 = prF e f := List.take_of_length_le (by omega)
  have h9 : (prF e f).take 9 = prB e f := by
    unfold prF
    rw [List.take_append_of_le_length (by rw [prB_length]; omega)]
    exact List.take_of_length_le (by rw [prB_length]; omega)
  have hd9 : (prF e f).drop 9 = le4 (crc (prB e f)) := by
    unfold prF
    have := prB_length e f
    rw [← this, List.drop_left]
  rw [decV_ok (by omega) (by rw [ht, h9, hd9, val_le4 _ (crc_lt (prB_octs e f))]), ht, h9, prOf_eq _ (prB_length e f) (prB_octs e f)]
  have t8 : (prB e f).take 8 = le 8 e.toNat := by
    unfold prB
    rw [List.take_append_of_le_length (by rw [le_length]; omega)]
    exact List.take_of_length_le (by rw [le_length]; omega)
  have g8 : (prB e f).getD 8 0 = (f + 1).toNat := by
    unfold prB
    rw [le_one _ (by omega), List.getD_eq_getElem?_getD, List.getElem?_append_right (by rw [le_length]; omega), le_length]; rfl
  have n8 : numS (prB e f, 0) 8 = (e, 0, ((prB e f).drop 8, 0)) := by
    rw [num8_at _ (prB_length e f), t8, val_le8 _ (by omega), if_neg (by omega), show ((e.toNat : Nat) : Int) = e by omega]
  rw [n8, g8, show (((f + 1).toNat : Nat) : Int) - 1 = f by omega, if_pos ⟨rfl, h⟩]
theorem cellsM2 : Try.prog.cellsOf 27 = 4 := by kernel_rfl
section
open Go.ChangeShapes Go.WideShapes Go.ChangeAt
variable {H : Type} {enc : TypeId × Value → H} {w : World}
set_option maxRecDepth 100000 in
theorem arr4 {A : Array Value} (h : A.size = 4) : ∃ x y z u, A = #[x, y, z, u] := by
  obtain ⟨l⟩ := A
  match l, h with
  | [x, y, z, u], _ => exact ⟨x, y, z, u, rfl⟩
set_option maxRecDepth 100000 in
theorem okWide_ends {r : Reach} {b0 : Nat} {v : Value} (h : Value.okWide Try.prog w r b0 27 v) : ∃ cs : Array Value, v = .agg cs ∧ cs.size = 4 := by
  simp only [Value.okWide, Try.underlying27] at h
  obtain ⟨cs, h1, h2, _⟩ := h
  exact ⟨cs, h1, by rw [h2, cellsM2]⟩
set_option maxRecDepth 100000 in
theorem ends_open {r : Reach} {b0 : Nat} {v : Value} {d : DataW H} {pl : List MemPlace} (hv : Value.okWide Try.prog w r b0 27 v) (h : DataW.Trod enc Try.prog w 0 (fun _ => true) true 27 v d pl) :
    ∃ (x y u v' : Int), v = .agg #[.int .i64 x, .int .i64 y, .int .i64 u, .int .i64 v'] := by
  obtain ⟨cs, rfl, hsz⟩ := okWide_ends hv
  obtain ⟨c0, c1, c2, c3, rfl⟩ := arr4 hsz
  obtain ⟨fuel, hf⟩ := h
  obtain ⟨xs, m, _, hx, _, hxl, hfl⟩ := DataW.trod_array Try.underlying27 hf
  have t0 := hfl 0 (by omega)
  have t1 := hfl 1 (by omega)
  match xs, hxl with
  | [y0, y1], _ =>
    simp [Value.cells, cellsMk] at t0 t1
    obtain ⟨m0, k0, e0, _⟩ := mark_ints _ _ _ rfl t0
    obtain ⟨m1, k1, e1, _⟩ := mark_ints _ _ _ rfl t1
    match m0, k0, e0 with
    | [x, y], _, e0 =>
    match m1, k1, e1 with
    | [u, v'], _, e1 =>
      simp [zI] at e0 e1
      obtain ⟨rfl, rfl⟩ := e0
      obtain ⟨rfl, rfl⟩ := e1
      exact ⟨x, y, u, v', rfl⟩
end
end Go.Proofs.Ytbfkacahaocpfaa
