/-
  Records and points that came in.
-/
import Derived.Deep.SlicePairs
import Derived.Lib.SmallJoins
import Derived.Test.YtgogpngobdafaaaDoorLw0
import Derived.Test.YtgogpngobdafaaaDoorJb
namespace Go.Proofs.YtgogpngobdafaaaDoor
set_option linter.unusedVariables false
set_option linter.unusedSimpArgs false
open Go.ChangeShapes Go.WideShapes Go.ChangeAt Go.RowKit
theorem bounds_u32J {n : Int} (h : (Lit.int .u32 n).wf = true) : 0 ≤ n ∧ n ≤ 4294967295 := by
  simp [Lit.wf, IntKind.min, IntKind.max, IntKind.signed, IntKind.bits] at h
  omega
theorem bounds_u64J {n : Int} (h : (Lit.int .u64 n).wf = true) : 0 ≤ n ∧ n ≤ 18446744073709551615 := by
  simp [Lit.wf, IntKind.min, IntKind.max, IntKind.signed, IntKind.bits] at h
  omega
theorem bounds_i64J {n : Int} (h : (Lit.int .i64 n).wf = true) : -9223372036854775808 ≤ n ∧ n ≤ 9223372036854775807 := by
  simp [Lit.wf, IntKind.min, IntKind.max, IntKind.signed, IntKind.bits] at h
  omega
section
variable {H : Type} {enc : TypeId × Value → H} {W : World}
set_option maxRecDepth 100000 in
theorem trod_labels {fuel : Nat} {v : Value} {x : DataW H × List MemPlace} (hf : DataW.trod enc Tryd.prog W 0 (fun _ => true) true fuel 24 [v] = some x) :
    ∃ (A : Option Addr) (cap : Nat) (l : List Lb), v = .slice A l.length cap ∧ (l.length ≤ cap ∧ cap ≤ maxLen) ∧ Rd W A (lcells l) ∧ ∀ x ∈ l, x.1.size ≤ maxLen ∧ x.2.size ≤ maxLen := by
  rcases Go.Deep.open_slice_pairs Tryd.underlying24 Tryd.underlying68 (by kernel_rfl) rfl rfl (by kernel_rfl) (by kernel_rfl) hf with ⟨hcs, _⟩ | ⟨a, len, cap, m, n, V0, V1, D0, D1, P0, P1, hcs, _, hl, hm, hmm, _, hx⟩
  · injection hcs with hcs; subst hcs
    exact ⟨none, 0, [], rfl, ⟨by decide, by decide⟩, Rd.nil _ _, fun o ho => by cases ho⟩
  · injection hcs with hcs; subst hcs
    simp only [if_true] at hmm
    rw [hmm] at hx
    clear hmm
    have each : ∀ i, i < cap → ∃ o : Lb, V0 i = .string o.1 ∧ V1 i = .string o.2 ∧ o.1.size ≤ maxLen ∧ o.2.size ≤ maxLen := by
      intro i hi
      obtain ⟨_, _, t0, t1⟩ := hx i hi
      obtain ⟨s0, e0, _, w0⟩ := DataW.trod_string Tryd.underlying9 t0
      obtain ⟨s1, e1, _, w1⟩ := DataW.trod_string Tryd.underlying9 t1
      simp at e0 e1
      exact ⟨(s0, s1), e0, e1, w0, w1⟩
    let f : Nat → Lb := fun i => if h : i < cap then (each i h).choose else (⟨#[]⟩, ⟨#[]⟩)
    have hfs : ∀ i, i < cap → V0 i = .string (f i).1 ∧ V1 i = .string (f i).2 ∧ (f i).1.size ≤ maxLen ∧ (f i).2.size ≤ maxLen := by
      intro i hi
      have : f i = (each i hi).choose := dif_pos hi
      rw [this]
      exact (each i hi).choose_spec
    by_cases hc0 : len = 0
    · subst hc0
      exact ⟨some a, cap, [], rfl, ⟨by simp, hm⟩, Rd.nil _ _, fun o ho => by cases ho⟩
    · obtain ⟨c00, _, _, _⟩ := hx 0 (by omega)
      rw [Nat.zero_mul] at c00
      obtain ⟨b, off, _, h00, _, _⟩ := addr_flat c00
      have := h00 rfl
      subst this
      refine ⟨some ⟨b, off, none⟩, cap, (List.range len).map f, by simp, ⟨by simpa using hl, hm⟩, rd_lb fun k hk => ?_, fun o ho => ?_⟩
      · have hk' : k < len := by simpa using hk
        obtain ⟨c0, c1, _, _⟩ := hx k (by omega)
        obtain ⟨s0, s1, _⟩ := hfs k (by omega)
        refine ⟨?_, ?_⟩
        · rw [add_plain] at c0
          rw [c0, s0]; simp
        · rw [add_plain, ← Nat.add_assoc] at c1
          rw [c1, s1]; simp
      · obtain ⟨i, hi, rfl⟩ := List.mem_map.1 ho
        exact (hfs i (by have := List.mem_range.1 hi; omega)).2.2
set_option maxRecDepth 100000 in
theorem trod_entry {fuel : Nat} {v0 v1 v2 v3 : Value} {x : DataW H × List MemPlace} (hf : DataW.trod enc Tryd.prog W 0 (fun _ => true) true fuel 47 [v0, v1, v2, v3] = some x) : ∃ o : En, [v0, v1, v2, v3] = enC o ∧ EnOk o := by
  obtain ⟨xs, n, _, _, _, hxl, hF⟩ := DataW.trod_struct Tryd.underlying47 hf
  match xs, hxl with
  | [y0, y1], _ =>
    have g0 := hF 0 _ rfl
    have g1 := hF 1 _ rfl
    rw [show Tryd.prog.cellsOf _ = 1 from by kernel_rfl] at g0
    rw [show Tryd.prog.cellsOf _ = 3 from by kernel_rfl] at g1
    simp at g0 g1
    obtain ⟨n0, e0, _, w0⟩ := DataW.trod_int Tryd.underlying22 g0
    obtain ⟨xs2, n2, _, _, _, hxl2, hF2⟩ := DataW.trod_struct Tryd.underlying45 g1
    match xs2, hxl2 with
    | [z0, z1, z2], _ =>
      have k0 := hF2 0 _ rfl
      have k1 := hF2 1 _ rfl
      have k2 := hF2 2 _ rfl
      rw [show Tryd.prog.cellsOf _ = 1 from by kernel_rfl] at k0 k1 k2
      simp at k0 k1 k2
      obtain ⟨m0, f0, _, q0⟩ := DataW.trod_int Tryd.underlying2 k0
      obtain ⟨m1, f1, _, q1⟩ := DataW.trod_int Tryd.underlying43 k1
      obtain ⟨m2, f2, _, q2⟩ := DataW.trod_int Tryd.underlying43 k2
      simp at e0 f0 f1 f2
      obtain ⟨a1, a2⟩ := bounds_u32J w0
      obtain ⟨b1, b2⟩ := bounds_i64J q0
      obtain ⟨c1, c2⟩ := bounds_u64J q1
      obtain ⟨d1, d2⟩ := bounds_u64J q2
      obtain ⟨r, rfl⟩ := Int.eq_ofNat_of_zero_le a1
      obtain ⟨u, rfl⟩ := Int.eq_ofNat_of_zero_le c1
      obtain ⟨s, rfl⟩ := Int.eq_ofNat_of_zero_le d1
      exact ⟨(r, m0, u, s), by rw [e0, f0, f1, f2]; rfl, by simp only; omega, b1, by simp only; omega, by simp only; omega, by simp only; omega⟩
set_option maxRecDepth 100000 in
theorem trod_entries {fuel : Nat} {v : Value} {x : DataW H × List MemPlace} (hf : DataW.trod enc Tryd.prog W 0 (fun _ => true) true fuel 25 [v] = some x) :
    ∃ (A : Option Addr) (cap : Nat) (l : List En), v = .slice A l.length cap ∧ (l.length ≤ cap ∧ cap ≤ maxLen) ∧ Rd W A (ecells l) ∧ ∀ o ∈ l, EnOk o := by
  rcases Go.Deep.open_slice Tryd.underlying25 hf with ⟨hcs, _⟩ | ⟨a, len, cap, m, n, D, Pl, hcs, hb, hl, hm, hmm, hy, hx⟩
  · injection hcs with hcs; subst hcs
    exact ⟨none, 0, [], rfl, ⟨by decide, by decide⟩, Rd.nil _ _, fun o ho => by cases ho⟩
  · injection hcs with hcs; subst hcs
    simp only [if_true] at hmm
    rw [hmm] at hx
    have each : ∀ i, i < cap → ∃ o : En, EnOk o ∧ ∀ j v, (enC o)[j]? = some v → W.cell? (a.add (i * 4 + j)) = some v := by
      intro i hi
      obtain ⟨cs', h1, h2⟩ := hx i hi
      rw [show Tryd.prog.cellsOf 47 = 4 from by kernel_rfl] at h1
      obtain ⟨_, hlen, hcell⟩ := World.cells?_some h1
      match cs', hlen with
      | [v0, v1, v2, v3], _ =>
        obtain ⟨o, e, ho⟩ := trod_entry h2
        refine ⟨o, ho, fun j v hv => ?_⟩
        rw [← e] at hv
        have hj : j < 4 := (List.getElem?_eq_some_iff.1 hv).1
        have := hcell j (by omega)
        rw [Go.Deep.add_add] at this
        rw [this]
        obtain ⟨hj', e'⟩ := List.getElem?_eq_some_iff.1 hv
        rw [← e']
        simp [List.getD, hj']
    let f : Nat → En := fun i => if h : i < cap then (each i h).choose else en0
    have hfs : ∀ i, i < cap → EnOk (f i) ∧ ∀ j v, (enC (f i))[j]? = some v → W.cell? (a.add (i * 4 + j)) = some v := by
      intro i hi
      have : f i = (each i hi).choose := dif_pos hi
      rw [this]
      exact (each i hi).choose_spec
    by_cases hc0 : len = 0
    · subst hc0
      exact ⟨some a, cap, [], rfl, ⟨by simp, hm⟩, Rd.nil _ _, fun o ho => by cases ho⟩
    · have c00 := (hfs 0 (by omega)).2 0 _ rfl
      rw [Nat.zero_mul, Nat.zero_add] at c00
      obtain ⟨b, off, _, h00, _, _⟩ := addr_flat c00
      have := h00 rfl
      subst this
      refine ⟨some ⟨b, off, none⟩, cap, (List.range len).map f, by simp, ⟨by simpa using hl, hm⟩, rd_flat enC_len (by decide) fun k x hk i v hv => ?_, fun o ho => ?_⟩
      · obtain ⟨hk', e⟩ := List.getElem?_eq_some_iff.1 hk
        have hk2 : k < len := by simpa using hk'
        have e2 : f k = x := by rw [← e]; simp
        have := (hfs k (by omega)).2 i v (by rw [e2]; exact hv)
        rw [add_plain, ← Nat.add_assoc] at this
        exact this
      · obtain ⟨i, hi, rfl⟩ := List.mem_map.1 ho
        exact (hfs i (by have := List.mem_range.1 hi; omega)).1
/-- What is known of a record that came in. -/
structure RvIn (W : World) (x : Rv) : Prop where
  is : RvIs W x
  ok : RpOk x.p
  la : x.ls.length ≤ x.ca ∧ x.ca ≤ maxLen
  lb : x.ps.length ≤ x.cb ∧ x.cb ≤ maxLen
  kd : -9223372036854775808 ≤ x.kd ∧ x.kd ≤ 9223372036854775807
  sz : ∀ y ∈ x.ls, y.1.size ≤ maxLen ∧ y.2.size ≤ maxLen
set_option maxRecDepth 100000 in
theorem open_record {r : Reach} {b0 : Nat} {v : Value} {d : DataW H} {ps : List MemPlace} (hval : Value.okWide Tryd.prog W r b0 27 v) (h : DataW.Trod enc Tryd.prog W 0 (fun _ => true) true 27 v d ps) : ∃ x : Rv, v = .agg (rvC x) ∧ RvIn W x := by
  obtain ⟨cs, rfl, hsz⟩ := okWide_struct Tryd.underlying27 hval
  have h5 : cs.size = 4 := hsz.trans (by kernel_rfl)
  obtain ⟨v0, v1, v2, v3, rfl⟩ : ∃ v0 v1 v2 v3, cs = #[v0, v1, v2, v3] := by
    obtain ⟨l⟩ := cs
    match l, h5 with
    | [a, b, c, d], _ => exact ⟨a, b, c, d, rfl⟩
  obtain ⟨fuel, hf⟩ := h
  obtain ⟨xs, n, _, _, _, hxl, hF⟩ := DataW.trod_struct Tryd.underlying27 hf
  match xs, hxl with
  | [y0, y1, y2, y3], _ =>
    have g0 := hF 0 _ rfl
    have g1 := hF 1 _ rfl
    have g2 := hF 2 _ rfl
    have g3 := hF 3 _ rfl
    rw [show Tryd.prog.cellsOf _ = 1 from by kernel_rfl] at g0 g1 g2 g3
    simp [Value.cells] at g0 g1 g2 g3
    obtain ⟨n0, e0, _, w0⟩ := DataW.trod_int Tryd.underlying3 g0
    obtain ⟨n1, e1, _, w1⟩ := DataW.trod_int Tryd.underlying22 g1
    obtain ⟨A, ca, ls, e2, h2, r2, s2⟩ := trod_labels g2
    obtain ⟨B, cb, ps, e3, h3, r3, s3⟩ := trod_entries g3
    simp at e0 e1
    obtain ⟨a1, a2⟩ := bounds_u32J w1
    obtain ⟨r, rfl⟩ := Int.eq_ofNat_of_zero_le a1
    exact ⟨⟨n0, r, A, ca, ls, B, cb, ps⟩, by rw [e0, e1, e2, e3]; rfl, ⟨r2, r3⟩, ⟨by show r < _; omega, s3⟩, h2, h3, bounds_i64J w0, s2⟩
set_option maxRecDepth 100000 in
theorem open_entry {r : Reach} {b0 : Nat} {v : Value} {d : DataW H} {ps : List MemPlace} (hval : Value.okWide Tryd.prog W r b0 47 v) (h : DataW.Trod enc Tryd.prog W 0 (fun _ => true) true 47 v d ps) : ∃ x : En, v = aggEn x ∧ EnOk x := by
  obtain ⟨cs, rfl, hsz⟩ := okWide_struct Tryd.underlying47 hval
  have h5 : cs.size = 4 := hsz.trans (by kernel_rfl)
  obtain ⟨v0, v1, v2, v3, rfl⟩ : ∃ v0 v1 v2 v3, cs = #[v0, v1, v2, v3] := by
    obtain ⟨l⟩ := cs
    match l, h5 with
    | [a, b, c, d], _ => exact ⟨a, b, c, d, rfl⟩
  obtain ⟨fuel, hf⟩ := h
  obtain ⟨o, e, ho⟩ := trod_entry hf
  exact ⟨o, by unfold aggEn; rw [show (#[v0, v1, v2, v3] : Array Value) = ([v0, v1, v2, v3] : List Value).toArray from rfl, e]; rfl, ho⟩
end
end Go.Proofs.YtgogpngobdafaaaDoor
