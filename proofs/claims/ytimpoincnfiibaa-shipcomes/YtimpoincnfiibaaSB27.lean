
/- RcArg, RcList, RcEnc. -/
import Derived.Test.YtimpoincnfiibaaSB8
import Derived.Test.YtimpoincnfiibaaSB15
import Derived.Test.YtimpoincnfiibaaSB9
import Derived.Deep.Strs
/- A record that came in. -/
namespace Go.Proofs.Ytimpoincnfiibaa
open Go.ChangeShapes Go.WideShapes Go.ChangeAt Go.RowKit

theorem rcellsI : Try.prog.cellsOf 3 = 1 := by kernel_rfl
theorem rcellsS : Try.prog.cellsOf 9 = 1 := by kernel_rfl
theorem rcellsR : Try.prog.cellsOf 47 = 8 := by kernel_rfl
theorem array8 {α : Type} {cs : Array α} (h : cs.size = 8) : ∃ c0 c1 c2 c3 c4 c5 c6 c7, cs = #[c0, c1, c2, c3, c4, c5, c6, c7] := by
  obtain ⟨l⟩ := cs
  match l, h with
  | [c0, c1, c2, c3, c4, c5, c6, c7], _ => exact ⟨c0, c1, c2, c3, c4, c5, c6, c7, rfl⟩
section
variable {H : Type} {enc : TypeId × Value → H} {w : World} {base : Nat} {spare : Nat → Bool} {held : Bool}
set_option maxRecDepth 100000 in
theorem rec_open {r : Reach} {b0 : Nat} {v : Value} {d : DataW H} {pl : List MemPlace} (hv : Value.okWide Try.prog w r b0 47 v) (h : DataW.Trod enc Try.prog w base spare held 47 v d pl) (hz : ∀ z ∈ d.weights Try.prog 47, z ≤ reachBytes) :
    ∃ (r : Rec), v = (.agg #[.int .i64 r.lsn, .int .i64 r.ep, .int .i64 r.kind, .int .i64 r.page, .int .i64 r.other, .int .i64 r.req, .string r.key, .string r.val]) ∧ r.key.size ≤ 140737488351232 ∧ r.val.size ≤ 140737488351232 := by
  obtain ⟨cs, rfl, hsz⟩ := okWide_struct Try.underlying47 hv
  obtain ⟨c0, c1, c2, c3, c4, c5, c6, c7, rfl⟩ := array8 (hsz.trans rcellsR)
  obtain ⟨fuel, hf⟩ := h
  obtain ⟨xs, m, _, hx, hl, hlen, hfs⟩ := DataW.trod_struct Try.underlying47 hf
  match xs, hlen with
  | [y0, y1, y2, y3, y4, y5, y6, y7], _ =>
    have t0 := hfs 0 _ rfl
    have t1 := hfs 1 _ rfl
    have t2 := hfs 2 _ rfl
    have t3 := hfs 3 _ rfl
    have t4 := hfs 4 _ rfl
    have t5 := hfs 5 _ rfl
    have t6 := hfs 6 _ rfl
    have t7 := hfs 7 _ rfl
    simp [Value.cells, rcellsI, rcellsS] at t0 t1 t2 t3 t4 t5 t6 t7
    have hd : d = .agg [y0.1, y1.1, y2.1, y3.1, y4.1, y5.1, y6.1, y7.1] := by simpa using congrArg Prod.fst hx
    rw [hd] at hz
    simp only [DataW.weights, Try.underlying47] at hz
    have z6 : ∀ z ∈ y6.1.weights Try.prog 9, z ≤ reachBytes := fun z h => hz z (DataW.weights_mem_each (j := 6) rfl rfl z h)
    have z7 : ∀ z ∈ y7.1.weights Try.prog 9, z ≤ reachBytes := fun z h => hz z (DataW.weights_mem_each (j := 7) rfl rfl z h)
    obtain ⟨b0, e0, _, _⟩ := DataW.trod_int Try.underlying3 t0
    obtain ⟨b1, e1, _, _⟩ := DataW.trod_int Try.underlying3 t1
    obtain ⟨b2, e2, _, _⟩ := DataW.trod_int Try.underlying3 t2
    obtain ⟨b3, e3, _, _⟩ := DataW.trod_int Try.underlying3 t3
    obtain ⟨b4, e4, _, _⟩ := DataW.trod_int Try.underlying3 t4
    obtain ⟨b5, e5, _, _⟩ := DataW.trod_int Try.underlying3 t5
    obtain ⟨b6, e6, e6', _⟩ := DataW.trod_string Try.underlying9 t6
    obtain ⟨b7, e7, e7', _⟩ := DataW.trod_string Try.underlying9 t7
    simp only [List.cons.injEq, and_true] at e0 e1 e2 e3 e4 e5 e6 e7
    subst e0 e1 e2 e3 e4 e5 e6 e7
    rw [e6'] at z6
    rw [e7'] at z7
    have w6 := z6 b6.data.toList.length (by simp [DataW.weights])
    have w7 := z7 b7.data.toList.length (by simp [DataW.weights])
    rw [← Lib.size_eq] at w6 w7
    exact ⟨⟨b0, b1, b2, b3, b4, b5, b6, b7⟩, rfl, by simpa [reachBytes] using w6, by simpa [reachBytes] using w7⟩
end
end Go.Proofs.Ytimpoincnfiibaa

/- Lists of records in memory; a slice of records that came in. -/
namespace Go.Proofs.Ytimpoincnfiibaa
open Go.ChangeShapes Go.WideShapes Go.ChangeAt Go.RowKit Go.Deep

/-- A record's cells. -/
def recC (r : Rec) : List Value := [.int .i64 r.lsn, .int .i64 r.ep, .int .i64 r.kind, .int .i64 r.page, .int .i64 r.other, .int .i64 r.req, .string r.key, .string r.val]
theorem recC_length (r : Rec) : (recC r).length = 8 := rfl
theorem recC_one (r : Rec) : ∀ u ∈ recC r, u.oneCell' = true := by
  intro u hu
  simp only [recC, List.mem_cons, List.not_mem_nil, or_false] at hu
  rcases hu with h | h | h | h | h | h | h | h <;> (subst h; rfl)
theorem rec_range {w : World} {b o : Nat} {r : Rec} (h : w.rangeAt b o (recC r)) : w.cell? ⟨b, o, none⟩ = some (.int .i64 r.lsn) ∧ w.cell? ⟨b, o + 1, none⟩ = some (.int .i64 r.ep) ∧ w.cell? ⟨b, o + 2, none⟩ = some (.int .i64 r.kind) ∧ w.cell? ⟨b, o + 3, none⟩ = some (.int .i64 r.page) ∧ w.cell? ⟨b, o + 4, none⟩ = some (.int .i64 r.other) ∧ w.cell? ⟨b, o + 5, none⟩ = some (.int .i64 r.req) ∧ w.cell? ⟨b, o + 6, none⟩ = some (.string r.key) ∧ w.cell? ⟨b, o + 7, none⟩ = some (.string r.val) :=
  ⟨h 0 _ rfl, h 1 _ rfl, h 2 _ rfl, h 3 _ rfl, h 4 _ rfl, h 5 _ rfl, h 6 _ rfl, h 7 _ rfl⟩
/-- A slice of records as a walk sees it. -/
structure Recs (w : World) (a : Option Addr) (cap : Nat) (ls : List Rec) : Prop where
  le : ls.length ≤ cap
  max : cap ≤ 9223372036854775807
  at_ : ls = [] ∨ ∃ b off, a = some ⟨b, off, none⟩ ∧ b < w.heap.size ∧ ∀ i r, ls[i]? = some r → w.rangeAt b (off + i * 8) (recC r)
theorem Recs.same {w w' : World} {a : Option Addr} {cap : Nat} {ls : List Rec} (h : Recs w a cap ls) (f : Fr (fun _ => False) w w') : Recs w' a cap ls := by
  refine ⟨h.le, h.max, ?_⟩
  rcases h.at_ with h0 | ⟨b, off, rfl, hb, hc⟩
  · exact .inl h0
  · exact .inr ⟨b, off, rfl, Nat.lt_of_lt_of_le hb f.size, fun i r hr => range_fr (hc i r hr) f (fun f => f)⟩
theorem Recs.some {w : World} {a : Option Addr} {cap : Nat} {ls : List Rec} (h : Recs w a cap ls) (hn : 0 < ls.length) : ∃ b off, a = some ⟨b, off, none⟩ ∧ b < w.heap.size ∧ ∀ i r, ls[i]? = some r → w.rangeAt b (off + i * 8) (recC r) := by
  rcases h.at_ with h0 | h
  · rw [h0] at hn; simp at hn
  · exact h

def rec0 : Rec := ⟨0, 0, 0, 0, 0, 0, ⟨#[]⟩, ⟨#[]⟩⟩
section
variable {H : Type} {enc : TypeId × Value → H} {w : World}
set_option maxRecDepth 100000 in
/-- A record's eight cells that came in. -/
theorem rec_in {fuel : Nat} {cs : List Value} {x : DataW H × List MemPlace} (hlen : cs.length = 8) (h : DataW.trod enc Try.prog w 0 (fun _ => true) true fuel 47 cs = some x) : ∃ r : Rec, cs = recC r := by
  obtain ⟨xs, n', _, _, _, hxl, hfl⟩ := DataW.trod_struct Try.underlying47 h
  have t0 := hfl 0 _ rfl
  have t1 := hfl 1 _ rfl
  have t2 := hfl 2 _ rfl
  have t3 := hfl 3 _ rfl
  have t4 := hfl 4 _ rfl
  have t5 := hfl 5 _ rfl
  have t6 := hfl 6 _ rfl
  have t7 := hfl 7 _ rfl
  match xs, hxl with
  | [y0, y1, y2, y3, y4, y5, y6, y7], _ =>
  match cs, hlen with
  | [c0, c1, c2, c3, c4, c5, c6, c7], _ =>
    simp [rcellsI, rcellsS] at t0 t1 t2 t3 t4 t5 t6 t7
    obtain ⟨b0, e0, _, _⟩ := DataW.trod_int Try.underlying3 t0
    obtain ⟨b1, e1, _, _⟩ := DataW.trod_int Try.underlying3 t1
    obtain ⟨b2, e2, _, _⟩ := DataW.trod_int Try.underlying3 t2
    obtain ⟨b3, e3, _, _⟩ := DataW.trod_int Try.underlying3 t3
    obtain ⟨b4, e4, _, _⟩ := DataW.trod_int Try.underlying3 t4
    obtain ⟨b5, e5, _, _⟩ := DataW.trod_int Try.underlying3 t5
    obtain ⟨b6, e6, _, _⟩ := DataW.trod_string Try.underlying9 t6
    obtain ⟨b7, e7, _, _⟩ := DataW.trod_string Try.underlying9 t7
    simp only [List.cons.injEq, and_true] at e0 e1 e2 e3 e4 e5 e6 e7
    subst e0 e1 e2 e3 e4 e5 e6 e7
    exact ⟨⟨b0, b1, b2, b3, b4, b5, b6, b7⟩, rfl⟩
set_option maxRecDepth 100000 in
theorem recs_open {fuel len cap : Nat} {a : Option Addr} {d : DataW H} {p : List MemPlace} 
    (h : DataW.trod enc Try.prog w 0 (fun _ => true) true fuel 22 [.slice a len cap] = some (d, p)) :
    ∃ ls : List Rec, len = ls.length ∧ Recs w a cap ls ∧ (d = .nil ∧ ls = [] ∨ ∃ elems spare, d = .slice elems spare ∧ elems.length = ls.length) := by
  rcases open_slice Try.underlying22 h with ⟨hcs, hx⟩ | ⟨x, l, c, m, n, D, Pl, hcs, _, hl, hm, hmm, hx, heach⟩
  · simp at hcs
    obtain ⟨rfl, rfl, rfl⟩ := hcs
    simp only [Prod.mk.injEq] at hx
    exact ⟨[], rfl, ⟨Nat.le_refl _, by omega, .inl rfl⟩, .inl ⟨hx.1, rfl⟩⟩
  · simp at hcs
    obtain ⟨rfl, rfl, rfl⟩ := hcs
    simp only [if_true] at hmm
    subst hmm
    rw [rcellsR] at heach
    have each : ∀ i, i < m → ∃ r : Rec, ∀ j v, (recC r)[j]? = some v → w.cell? (x.add (i * 8 + j)) = some v := by
      intro i hi
      obtain ⟨cs', hc, ht'⟩ := heach i hi
      obtain ⟨_, hlen, hcell⟩ := World.cells?_some hc
      obtain ⟨r, hr⟩ := rec_in hlen ht'
      refine ⟨r, fun j v hv => ?_⟩
      have hj : j < 8 := by have := (List.getElem?_eq_some_iff.1 hv).1; rwa [recC_length] at this
      have z := hcell j (by omega)
      rw [add_add] at z
      rw [z, hr]
      exact hv
    have inh : Inhabited Rec := ⟨rec0⟩
    obtain ⟨f, hf⟩ := choose_lt (α := Rec) each
    have hget : ∀ i s, ((List.range len).map f)[i]? = some s → i < len ∧ s = f i := by
      intro i s hs
      have hi : i < len := by have := (List.getElem?_eq_some_iff.1 hs).1; simpa using this
      refine ⟨hi, ?_⟩
      simp [hi] at hs
      exact hs.symm
    refine ⟨(List.range len).map f, by simp, ⟨by simpa using hl, by unfold maxLen at hm; omega, ?_⟩, .inr ?_⟩
    · by_cases h0 : len = 0
      · exact .inl (by simp [h0])
      · obtain ⟨b, off, spot⟩ := x
        have hc := hf 0 (by omega) 0 _ rfl
        have hspot : spot = none := by simpa [Addr.add] using World.cell?_spot hc
        subst hspot
        refine .inr ⟨b, off, rfl, World.block_lt_of_cell? w ⟨b, off + (0 * 8 + 0), none⟩ (by rw [Addr.add_lit] at hc; exact hc), fun i s hs => ?_⟩
        obtain ⟨hi, rfl⟩ := hget i s hs
        intro j v hv
        have := hf i (by omega) j v hv
        rw [Addr.add_lit, ← Nat.add_assoc] at this
        exact this
    · simp only [Prod.mk.injEq] at hx
      exact ⟨_, _, hx.1, by simp⟩
end
end Go.Proofs.Ytimpoincnfiibaa

/- A record's bytes and its frame; what record.Encode makes. -/
namespace Go.Proofs.Ytimpoincnfiibaa
open Go.RowKit Crcm

/-- A record's bytes. -/
def rb (r : Rec) : List Nat := le 8 r.lsn.toNat ++ le 8 r.ep.toNat ++ le 1 r.kind.toNat ++ le 4 r.page.toNat ++ le 4 r.other.toNat ++ le 8 r.req.toNat ++ txt r.key ++ txt r.val
/-- What a frame's sum is of. -/
def rh (r : Rec) : List Nat := le 2 (rb r).length ++ rb r
/-- A record's frame. -/
def frm (r : Rec) : List Nat := rh r ++ le4 (crc (rh r))
/-- What a right record is, at hand. -/
structure Rg (r : Rec) : Prop where
  lsn0 : 1 ≤ r.lsn
  lsn1 : r.lsn ≤ 1099511627776
  ep0 : 0 ≤ r.ep
  ep1 : r.ep ≤ 1099511627776
  kind0 : 1 ≤ r.kind
  kind1 : r.kind ≤ 7
  page0 : 0 ≤ r.page
  page1 : r.page ≤ 4096
  other0 : 0 ≤ r.other
  other1 : r.other ≤ 4096
  req0 : 0 ≤ r.req
  req1 : r.req ≤ 1099511627776
  key : r.key.size ≤ 16
  val : r.val.size ≤ 256
theorem keyB_le {s : ByteArray} (h : keyB s = true) : s.size ≤ 16 := by
  unfold keyB ekey at h; simp only [beq_iff_eq] at h
  split at h
  · exact absurd h (by decide)
  · omega
theorem valB_le {s : ByteArray} (h : valB s = true) : s.size ≤ 32 := by
  unfold valB evalu at h; simp only [beq_iff_eq] at h
  split at h
  · exact absurd h (by decide)
  · omega
theorem emp_size {s : ByteArray} (h : emp s = true) : s.size = 0 := by
  unfold emp at h
  rw [List.isEmpty_iff, Lib.toList_data] at h
  rw [Lib.size_eq, h]; rfl
theorem pgB_le {x : Int} (h : pgB x = true) : 1 ≤ x ∧ x ≤ 4096 := by unfold pgB wthB at h; rwa [decide_eq_true_eq] at h
theorem newB_le {s : ByteArray} (h : newB s = true) : s.size = 256 := by
  unfold newB at h
  simp only [Bool.and_eq_true] at h
  have h1 := h.1
  rw [← bsOf_length]
  unfold decF at h1
  split at h1
  · rename_i hh; exact hh.1
  · simp at h1
theorem rok_rg {r : Rec} (h : rok r = true) : Rg r := by
  unfold rok at h
  simp only [Bool.and_eq_true, wthB, decide_eq_true_eq] at h
  obtain ⟨⟨h1, h2⟩, ⟨h3, h4⟩, hs⟩ := h
  unfold suitB at hs
  split at hs
  · rename_i hk
    simp only [Bool.and_eq_true, Bool.or_eq_true, beq_iff_eq, wthB, decide_eq_true_eq] at hs
    obtain ⟨hp, ho, ⟨hr1, hr2⟩, hkey⟩ := hs
    have hk16 := keyB_le hkey
    have hv : r.val.size ≤ 32 ∧ 0 ≤ r.other ∧ r.other ≤ 2 := by
      rcases ho with ⟨a, b⟩ | ⟨a, b⟩
      · exact ⟨valB_le b, by omega, by omega⟩
      · exact ⟨by rw [emp_size b]; omega, by omega, by omega⟩
    exact ⟨h1, h2, h3, h4, by omega, by omega, by omega, by omega, by omega, by omega, by omega, by omega, hk16, by omega⟩
  · simp only [Bool.and_eq_true, beq_iff_eq] at hs
    obtain ⟨hq, hs⟩ := hs
    split at hs
    · simp only [Bool.and_eq_true, beq_iff_eq] at hs
      obtain ⟨a, b, c, d⟩ := hs
      have := emp_size c; have := emp_size d
      exact ⟨h1, h2, h3, h4, by omega, by omega, by omega, by omega, by omega, by omega, by omega, by omega, by omega, by omega⟩
    · split at hs
      · simp only [Bool.and_eq_true, beq_iff_eq] at hs
        obtain ⟨a, b, c, d⟩ := hs
        have := pgB_le a; have := keyB_le c; have := valB_le d
        exact ⟨h1, h2, h3, h4, by omega, by omega, by omega, by omega, by omega, by omega, by omega, by omega, by omega, by omega⟩
      · split at hs
        · simp only [Bool.and_eq_true, beq_iff_eq] at hs
          obtain ⟨a, b, c, d⟩ := hs
          have := pgB_le a; have := keyB_le c; have := emp_size d
          exact ⟨h1, h2, h3, h4, by omega, by omega, by omega, by omega, by omega, by omega, by omega, by omega, by omega, by omega⟩
        · split at hs
          · simp only [Bool.and_eq_true, beq_iff_eq] at hs
            obtain ⟨a, b, c, d⟩ := hs
            have := pgB_le a; have := emp_size c; have := newB_le d
            exact ⟨h1, h2, h3, h4, by omega, by omega, by omega, by omega, by omega, by omega, by omega, by omega, by omega, by omega⟩
          · split at hs
            · simp only [Bool.and_eq_true] at hs
              obtain ⟨a, b, c, d⟩ := hs
              have := pgB_le a; have := pgB_le b; have := keyB_le c; have := emp_size d
              exact ⟨h1, h2, h3, h4, by omega, by omega, by omega, by omega, by omega, by omega, by omega, by omega, by omega, by omega⟩
            · simp at hs
theorem rb_length (r : Rec) : (rb r).length = 37 + r.key.size + r.val.size := by
  unfold rb; simp only [List.length_append, le_length, txt_length]; omega
theorem rb_octs (r : Rec) : octs (rb r) := by
  unfold rb
  exact octs_app (octs_app (octs_app (octs_app (octs_app (octs_app (octs_app (le_octs' _ _) (le_octs' _ _)) (le_octs' _ _)) (le_octs' _ _)) (le_octs' _ _)) (le_octs' _ _)) (txt_octs _)) (txt_octs _)
theorem rh_length (r : Rec) : (rh r).length = 39 + r.key.size + r.val.size := by
  unfold rh; rw [List.length_append, le_length, rb_length]; omega
theorem rh_octs (r : Rec) : octs (rh r) := octs_app (le_octs' _ _) (rb_octs r)
theorem frm_length (r : Rec) : (frm r).length = 43 + r.key.size + r.val.size := by
  unfold frm; rw [List.length_append, rh_length, ← le_le4, le_length]; omega
theorem frm_octs (r : Rec) : octs (frm r) := octs_app (rh_octs r) (by rw [← le_le4]; exact le_octs' _ _)


theorem bytes_text (l : List Nat) (ho : octs l) : txt (strOf l) = le 2 l.length ++ l := by
  unfold txt
  have h : bsOf (strOf l) = l := bbsOf_strOf l ho
  rw [← bsOf_length, h]

end Go.Proofs.Ytimpoincnfiibaa
