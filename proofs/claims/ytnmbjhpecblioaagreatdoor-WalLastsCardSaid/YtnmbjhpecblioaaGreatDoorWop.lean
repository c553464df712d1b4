/-
  A log's operations that came in: a kind, a number, how many bytes more, bytes, a name.
-/
import Derived.Deep.SlicePairs
import Derived.Lib.SmallJoins
import Derived.Test.YtnmbjhpecblioaaGreatDoorLaw
import Derived.Test.YtnmbjhpecblioaaGreatDoorRfm
namespace Go.Proofs.YtnmbjhpecblioaaGreatDoor
set_option linter.unusedVariables false
set_option linter.unusedSimpArgs false
open Go.ChangeShapes Go.WideShapes Go.ChangeAt Go.RowKit
/-- An operation: its kind, a number, how many bytes more, bytes, a name. -/
structure OpW where
  kd : Int
  n : Int
  more : Nat
  A : Option Addr
  c : Nat
  bs : List UInt8
  nm : ByteArray
def opW (o : OpW) : List Value := [.int .i64 o.kd, .int .i64 o.n, .int .u16 (o.more : Nat), .slice o.A o.bs.length o.c, .string o.nm]
theorem opW_len (o : OpW) : (opW o).length = 5 := rfl
def OpWOk (w : World) (o : OpW) : Prop := o.nm.size ≤ maxLen ∧ Rd w o.A (o.bs.map Bv) ∧ o.bs.length ≤ o.c ∧ o.c ≤ maxLen ∧ o.more < 65536
theorem OpWOk.below {w w' : World} {o : OpW} (h : OpWOk w o) (hb : Below w.heap.size w w') : OpWOk w' o := ⟨h.1, h.2.1.below hb, h.2.2⟩
theorem bounds_u16 {n : Int} (h : (Lit.int .u16 n).wf = true) : 0 ≤ n ∧ n ≤ 65535 := by
  simp [Lit.wf, IntKind.min, IntKind.max, IntKind.signed, IntKind.bits] at h
  omega
section
variable {H : Type} {enc : TypeId × Value → H} {W : World}
theorem trod_bytes {fuel : Nat} {v : Value} {x : DataW H × List MemPlace} (h : DataW.trod enc Tryz.prog W 0 (fun _ => true) true fuel 29 [v] = some x) :
    ∃ (A : Option Addr) (cap : Nat) (xs : List UInt8), v = .slice A xs.length cap ∧ (xs.length ≤ cap ∧ cap ≤ maxLen) ∧ Rd W A (xs.map Bv) := by
  rcases open_ints Tryz.underlying29 Tryz.underlying5 (by kernel_rfl) h with ⟨hcs, _⟩ | ⟨a, len, cap, zs, hcs, _, hl, hm, hz, _, hcell, hwz⟩
  · injection hcs with hcs; subst hcs
    exact ⟨none, 0, [], rfl, ⟨by decide, by decide⟩, Rd.nil _ _⟩
  · injection hcs with hcs; subst hcs
    simp only [if_true] at hz
    have hlen : (zs.take len).length = len := by simp; omega
    refine ⟨some a, cap, (zs.take len).map fun z => UInt8.ofNat z.toNat, by simp; omega, ⟨by simp; omega, hm⟩, ?_⟩
    have e : ((zs.take len).map fun z => UInt8.ofNat z.toNat).map Bv = (zs.take len).map (Value.int .u8) := by
      rw [List.map_map]
      refine List.map_congr_left fun z hz => ?_
      have hb := bounds_u8 (hwz z (List.mem_of_mem_take hz))
      simp only [Function.comp, Bv]
      congr 1
      rw [UInt8.toNat_ofNat', Nat.mod_eq_of_lt (by omega)]
      omega
    rw [e]
    intro j u hu
    have hj : j < len := by
      have := (List.getElem?_eq_some_iff.1 hu).1
      rw [List.length_map, hlen] at this
      exact this
    have h0 := hcell 0 (by omega)
    obtain ⟨b, off, _, h00, _, _⟩ := addr_flat h0
    have := h00 rfl
    subst this
    have hcj := hcell j (by omega)
    refine ⟨b, off, rfl, ?_⟩
    rw [add_plain] at hcj
    rw [hcj, ← hu]
    simp [List.getD, hj, show j < zs.length by omega]
set_option maxRecDepth 100000 in
theorem trod_op {fuel : Nat} {v0 v1 v2 v3 v4 : Value} {x : DataW H × List MemPlace} (hf : DataW.trod enc Tryz.prog W 0 (fun _ => true) true fuel 31 [v0, v1, v2, v3, v4] = some x) : ∃ o : OpW, [v0, v1, v2, v3, v4] = opW o ∧ OpWOk W o := by
  obtain ⟨xs, n, _, _, _, hxl, hF⟩ := DataW.trod_struct Tryz.underlying31 hf
  match xs, hxl with
  | [y0, y1, y2, y3, y4], _ =>
    have g0 := hF 0 _ rfl
    have g1 := hF 1 _ rfl
    have g2 := hF 2 _ rfl
    have g3 := hF 3 _ rfl
    have g4 := hF 4 _ rfl
    rw [show Tryz.prog.cellsOf _ = 1 from by kernel_rfl] at g0 g1 g2 g3 g4
    simp at g0 g1 g2 g3 g4
    obtain ⟨n0, e0, _, _⟩ := DataW.trod_int Tryz.underlying3 g0
    obtain ⟨n1, e1, _, _⟩ := DataW.trod_int Tryz.underlying3 g1
    obtain ⟨n2, e2, _, w2⟩ := DataW.trod_int Tryz.underlying28 g2
    obtain ⟨A, c, bs, e3, w3, w4⟩ := trod_bytes g3
    obtain ⟨n4, e4, _, w1⟩ := DataW.trod_string Tryz.underlying9 g4
    simp at e0 e1 e2 e4
    obtain ⟨b1, b2⟩ := bounds_u16 w2
    obtain ⟨m, rfl⟩ := Int.eq_ofNat_of_zero_le b1
    exact ⟨⟨n0, n1, m, A, c, bs, n4⟩, by rw [e0, e1, e2, e3, e4]; rfl, w1, w4, w3.1, w3.2, by simp only; omega⟩
set_option maxRecDepth 100000 in
theorem open_op {r : Reach} {b0 : Nat} {v : Value} {d : DataW H} {ps : List MemPlace} (hval : Value.okWide Tryz.prog W r b0 31 v) (h : DataW.Trod enc Tryz.prog W 0 (fun _ => true) true 31 v d ps) : ∃ o : OpW, v = .agg (opW o).toArray ∧ OpWOk W o := by
  obtain ⟨cs, rfl, hsz⟩ := okWide_struct Tryz.underlying31 hval
  have h5 : cs.size = 5 := hsz.trans (by kernel_rfl)
  obtain ⟨v0, v1, v2, v3, v4, rfl⟩ : ∃ v0 v1 v2 v3 v4, cs = #[v0, v1, v2, v3, v4] := by
    obtain ⟨l⟩ := cs
    match l, h5 with
    | [a, b, c, d, e], _ => exact ⟨a, b, c, d, e, rfl⟩
  obtain ⟨fuel, hf⟩ := h
  obtain ⟨o, e, ho⟩ := trod_op hf
  exact ⟨o, by rw [← e], ho⟩
set_option maxRecDepth 100000 in
theorem open_ops {r : Reach} {b0 : Nat} {v : Value} {d : DataW H} {ps : List MemPlace} (hval : Value.okWide Tryz.prog W r b0 22 v) (h : DataW.Trod enc Tryz.prog W 0 (fun _ => true) true 22 v d ps) :
    ∃ (A : Option Addr) (cap : Nat) (l : List OpW), v = .slice A l.length cap ∧ (l.length ≤ cap ∧ cap ≤ maxLen) ∧ Rd W A (l.flatMap opW) ∧ ∀ o ∈ l, OpWOk W o := by
  obtain ⟨a0, len, cap, rfl⟩ := okWide_slice Tryz.underlying22 hval
  obtain ⟨fuel, hf⟩ := h
  rcases Go.Deep.open_slice Tryz.underlying22 hf with ⟨hcs, _⟩ | ⟨a, len', cap', m, n, D, Pl, hcs, hb, hl, hm, hmm, hy, hx⟩
  · simp [Value.cells] at hcs
    obtain ⟨rfl, rfl, rfl⟩ := hcs
    exact ⟨none, 0, [], rfl, ⟨by decide, by decide⟩, Rd.nil _ _, fun o ho => by cases ho⟩
  · simp [Value.cells] at hcs
    obtain ⟨rfl, rfl, rfl⟩ := hcs
    simp only [if_true] at hmm
    rw [hmm] at hx
    have each : ∀ i, i < cap → ∃ o : OpW, OpWOk W o ∧ ∀ j v, (opW o)[j]? = some v → W.cell? (a.add (i * 5 + j)) = some v := by
      intro i hi
      obtain ⟨cs', h1, h2⟩ := hx i hi
      rw [show Tryz.prog.cellsOf 31 = 5 from by kernel_rfl] at h1
      obtain ⟨_, hlen, hcell⟩ := World.cells?_some h1
      match cs', hlen with
      | [v0, v1, v2, v3, v4], _ =>
        obtain ⟨o, e, ho⟩ := trod_op h2
        refine ⟨o, ho, fun j v hv => ?_⟩
        rw [← e] at hv
        have hj : j < 5 := (List.getElem?_eq_some_iff.1 hv).1
        have := hcell j (by omega)
        rw [Go.Deep.add_add] at this
        rw [this]
        obtain ⟨hj', e'⟩ := List.getElem?_eq_some_iff.1 hv
        rw [← e']
        simp [List.getD, hj']
    let f : Nat → OpW := fun i => if h : i < cap then (each i h).choose else ⟨0, 0, 0, none, 0, [], ⟨#[]⟩⟩
    have hfs : ∀ i, i < cap → OpWOk W (f i) ∧ ∀ j v, (opW (f i))[j]? = some v → W.cell? (a.add (i * 5 + j)) = some v := by
      intro i hi
      have : f i = (each i hi).choose := dif_pos hi
      rw [this]
      exact (each i hi).choose_spec
    by_cases hc0 : len = 0
    · subst hc0
      exact ⟨some a, cap, [], rfl, ⟨by simp, hm⟩, Rd.nil _ _, fun o ho => by cases ho⟩
    · have c00 := (hfs 0 (by omega)).2 0 _ rfl
      rw [Nat.zero_mul, Nat.zero_add] at c00
      obtain ⟨b, off, _, h00, _, _⟩ := addr_flat c00
      have := h00 rfl
      subst this
      refine ⟨some ⟨b, off, none⟩, cap, (List.range len).map f, by simp, ⟨by simpa using hl, hm⟩, rd_flat opW_len (by decide) fun k x hk i v hv => ?_, fun o ho => ?_⟩
      · obtain ⟨hk', e⟩ := List.getElem?_eq_some_iff.1 hk
        have hk2 : k < len := by simpa using hk'
        have e2 : f k = x := by rw [← e]; simp
        have := (hfs k (by omega)).2 i v (by rw [e2]; exact hv)
        rw [add_plain, ← Nat.add_assoc] at this
        exact this
      · obtain ⟨i, hi, rfl⟩ := List.mem_map.1 ho
        exact (hfs i (by have := List.mem_range.1 hi; omega)).1
end
end Go.Proofs.YtnmbjhpecblioaaGreatDoor
