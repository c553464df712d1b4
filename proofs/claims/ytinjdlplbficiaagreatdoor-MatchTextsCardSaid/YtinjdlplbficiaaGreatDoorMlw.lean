
/-
  The chapter's examples are as the document says; whether matchers are few.
  Matchers that came in: a list of them, and one; whether labels are few and short.
-/
import Derived.Deep.SlicePairs
import Derived.Lib.SmallJoins
import Derived.Test.YtinjdlplbficiaaGreatDoorMs4
import Derived.Test.YtinjdlplbficiaaGreatDoorMpr
import Derived.Test.YtinjdlplbficiaaGreatDoorLaw
import Derived.Test.YtinjdlplbficiaaGreatDoorLw0
namespace Go.Proofs.YtinjdlplbficiaaGreatDoor
set_option linter.unusedVariables false
set_option linter.unusedSimpArgs false
section
set_option linter.unusedVariables false
set_option linter.unusedSimpArgs false
open Go.RowKit
def exText : ByteArray := ⟨#[117, 112, 123, 106, 111, 98, 61, 34, 97, 34, 44, 99, 111, 100, 101, 33, 126, 34, 53, 46, 46, 34, 125]⟩
def exList : List Mt' := [(1, ⟨#[95, 95, 110, 97, 109, 101, 95, 95]⟩, ⟨#[117, 112]⟩), (1, ⟨#[106, 111, 98]⟩, ⟨#[97]⟩), (4, ⟨#[99, 111, 100, 101]⟩, ⟨#[53, 46, 46]⟩)]
def exLabels : List Lb := [(⟨#[95, 95, 110, 97, 109, 101, 95, 95]⟩, ⟨#[117, 112]⟩), (⟨#[99, 111, 100, 101]⟩, ⟨#[52, 48, 52]⟩), (⟨#[106, 111, 98]⟩, ⟨#[97]⟩)]
theorem lm1 : parseM (bl exText) = (0, exList) := by decide +kernel
theorem lm2 : parseM (bl ⟨#[123, 97, 61, 34, 34, 125]⟩) = (71, []) := by decide +kernel
theorem lm3 : printM exList = [117, 112, 123, 106, 111, 98, 61, 34, 97, 34, 44, 32, 99, 111, 100, 101, 33, 126, 34, 53, 46, 46, 34, 125] := by decide +kernel
theorem lm4 : allM exList exLabels = true := by decide +kernel
def fewL (l : List Mt') : Bool := decide (l.length ≤ 40) && l.all fun m => decide (m.2.1.size ≤ 300) && decide (m.2.2.size ≤ 300)
theorem fewL_of {l : List Mt'} (h : fewL l = true) : l.length ≤ 40 ∧ ∀ m ∈ l, m.2.1.size ≤ 300 ∧ m.2.2.size ≤ 300 := by
  unfold fewL at h
  simp only [Bool.and_eq_true, decide_eq_true_eq, List.all_eq_true] at h
  exact h
theorem fewL_few {l : List Mt'} (h : fewL l = true) : FewM l := by
  obtain ⟨h1, h2⟩ := fewL_of h
  exact ⟨by omega, fun x hx => by have := h2 x hx; omega⟩
section
set_option maxHeartbeats 3200000
set_option maxRecDepth 100000
theorem mlive_any (w : World) (hT : Tabs w) : Calls Tryz.prog 4 #[] w fun e w' => e = .returned (.bool true) ∧ RowKit.Below w.heap.size w w' := by
  have h1 := mparse_any exText w hT (by decide)
  rw [lm1] at h1
  have H1 := Lib.hid h1
  have HT := Lib.hid hT
  clear h1 hT
  unfold exText at H1
  go_enter Tryz.func4, Tryz.ntmps4
  go_wp2_with fail
  refine H1.out.mono ?_
  rintro e w1 ⟨A, c, rfl, ho, hb1⟩
  have h2 := mparse_any ⟨#[123, 97, 61, 34, 34, 125]⟩ w1 (HT.out.below hb1) (by decide)
  rw [lm2] at h2
  have H2 := Lib.hid h2
  have HB1 := Lib.hid hb1; have HO := Lib.hid ho
  clear h2 hb1 ho
  go_wp2_with fail
  refine H2.out.mono ?_
  rintro e w2 ⟨A2, c2, rfl, -, hb2⟩
  have ho2 := own_below_mt HO.out hb2
  have hb := HB1.out.trans (hb2.mono HB1.out.size)
  obtain ⟨A', c', e', hr, hc1, hc2⟩ := own_rd_mt ho2
  injection e' with e1 _ e2
  subst e1; subst e2
  have h3 := mprint_any A c exList w2 hr hc1 ⟨by decide, by decide +kernel⟩
  rw [lm3] at h3
  have H3 := Lib.hid h3
  have HB := Lib.hid hb; have HRD := Lib.hid hr; have HTT := Lib.hid (HT.out.below hb)
  clear h3 hb hr ho2 hb2 HO HB1 H1 H2
  have hlen : exList.length = 3 := rfl
  rw [hlen] at H3
  unfold mkB at H3
  go_wp2_with fail
  refine H3.out.mono ?_
  rintro e w3 ⟨rfl, hb3⟩
  have hb33 := HB.out.trans (hb3.mono HB.out.size)
  have hba : RowKit.Below w3.heap.size w3 (w3.alloc (.cells (lcells exLabels).toArray 33)) := (RowKit.Below.refl _ w3).alloc (Nat.le_refl _) _
  have h4 := mall_any A c exList (some ⟨w3.heap.size, 0, none⟩) 3 exLabels (w3.alloc (.cells (lcells exLabels).toArray 33)) ((HRD.out.below hb3).below hba) ((HTT.out.below hb3).below hba) (by decide) (by decide +kernel) (rd_row' w3 (lcells exLabels) 33) (by decide)
  rw [lm4] at h4
  have h5 : Calls Tryz.prog 11 #[.slice A 3 c, .slice (some ⟨w3.heap.size, 0, none⟩) 3 3] (w3.alloc (.cells #[.string ⟨#[95, 95, 110, 97, 109, 101, 95, 95]⟩, .string ⟨#[117, 112]⟩, .string ⟨#[99, 111, 100, 101]⟩, .string ⟨#[52, 48, 52]⟩, .string ⟨#[106, 111, 98]⟩, .string ⟨#[97]⟩] 33)) fun e w' => e = .returned (.bool true) ∧ RowKit.Below w.heap.size w w' := by
    refine (show Calls Tryz.prog 11 #[.slice A 3 c, .slice (some ⟨w3.heap.size, 0, none⟩) 3 3] (w3.alloc (.cells #[.string ⟨#[95, 95, 110, 97, 109, 101, 95, 95]⟩, .string ⟨#[117, 112]⟩, .string ⟨#[99, 111, 100, 101]⟩, .string ⟨#[52, 48, 52]⟩, .string ⟨#[106, 111, 98]⟩, .string ⟨#[97]⟩] 33)) _ from h4).mono ?_
    rintro e w' ⟨he, hb⟩
    exact ⟨he, (hb33.trans (hba.mono hb33.size)).trans (hb.mono (by have := hb33.size; simp; omega))⟩
  have H5 := Lib.hid h5
  clear h4 h5 hba hb33 hb3
  go_wp2_with fail
  refine H5.out.mono ?_
  rintro e w4 ⟨rfl, hb4⟩
  have HB4 := Lib.hid hb4; clear hb4
  go_wp2
  go_ret
  exact ⟨rfl, HB4.out⟩
theorem mfew_any (A : Option Addr) (c : Nat) (l : List Mt') (w : World) (hx : Rd w A (mcells l)) : Calls Tryz.prog 5 #[.slice A l.length c] w fun e w' => e = .returned (.bool (fewL l)) ∧ RowKit.Below w.heap.size w w' := by
  obtain ⟨R, hR⟩ : ∃ R, R = fewL l := ⟨_, rfl⟩
  rw [← hR]
  by_cases h60 : l.length ≤ 40
  · have hst : R = (l.drop 0).all fun m => decide (m.2.1.size ≤ 300) && decide (m.2.2.size ≤ 300) := by
      rw [hR]; unfold fewL; rw [decide_eq_true h60, Bool.true_and, List.drop_zero]
    have h60' : ¬ (40 : Int) < (l.length : Int) := by omega
    have HST := Lib.hid hst; clear hst hR
    go_enter Tryz.func5, Tryz.ntmps5
    go_wp2
    go_loopw [10] (fun s10 wr => ∃ k : Nat, s10 = .int .i64 k ∧ k ≤ l.length ∧ Aside (RowKit.Below w.heap.size w wr) ∧ Aside (R = (l.drop k).all fun m => decide (m.2.1.size ≤ 300) && decide (m.2.2.size ≤ 300))) (fun s10 _ => l.length - (intOf s10).toNat)
    case atStart => exact ⟨0, rfl, by omega, RowKit.Below.refl _ _, HST.out⟩
    case round =>
      obtain ⟨k, rfl, hk, BW, E⟩ := hrel
      have k0 : (0 : Int) ≤ (k : Int) := by omega
      by_cases hlt : k < l.length
      · have k1 : (k : Int) < (l.length : Int) := by omega
        obtain ⟨b, off, rfl, c0, c1, c2⟩ := mt_at (hx.below BW.out) hlt
        have hE := E.out
        rw [List.drop_eq_getElem_cons hlt, List.all_cons] at hE
        generalize l[k] = x at c0 c1 c2 hE
        obtain ⟨x0, x1, x2⟩ := x
        simp only at c0 c1 c2 hE
        have HBW := Lib.hid (BW.out.alloc BW.out.size (.cells #[.int .i64 x0, .string x1, .string x2] 37))
        clear hx E
        by_cases h1 : x1.size ≤ 300
        · have g1 : ¬ (300 : Int) < (x1.size : Int) := by omega
          rw [decide_eq_true h1, Bool.true_and] at hE
          by_cases h2 : x2.size ≤ 300
          · have g2 : ¬ (300 : Int) < (x2.size : Int) := by omega
            rw [decide_eq_true h2, Bool.true_and] at hE
            have HE := Lib.hid hE; clear hE
            go_wp2
            go_roundw
            case rel => exact ⟨k + 1, by go_num, by omega, (show Aside _ from HBW.out), (show Aside _ from HE.out)⟩
            case measure => simp [intOf]; omega
          · have g2 : (300 : Int) < (x2.size : Int) := by omega
            rw [decide_eq_false h2, Bool.false_and] at hE
            subst hE
            go_wp2
            go_ret
            exact ⟨rfl, HBW.out⟩
        · have g1 : (300 : Int) < (x1.size : Int) := by omega
          rw [decide_eq_false h1, Bool.false_and, Bool.false_and] at hE
          subst hE
          go_wp2
          go_ret
          exact ⟨rfl, HBW.out⟩
      · obtain rfl : k = l.length := by omega
        have hr : R = true := by rw [E.out, List.drop_length]; rfl
        subst hr
        go_wp2
        go_ret
        exact ⟨rfl, BW.out⟩
  · have hr : R = false := by rw [hR]; unfold fewL; rw [decide_eq_false h60, Bool.false_and]
    subst hr
    have h60' : (40 : Int) < (l.length : Int) := by omega
    clear hR
    go_enter Tryz.func5, Tryz.ntmps5
    go_wp2
    go_ret
    exact ⟨rfl, RowKit.Below.refl _ _⟩
end
end
section
set_option linter.unusedVariables false
set_option linter.unusedSimpArgs false
open Go.ChangeShapes Go.WideShapes Go.ChangeAt Go.RowKit
section
variable {H : Type} {enc : TypeId × Value → H} {P : Program} {w : World} {base : Nat} {spare : Nat → Bool} {held : Bool}
theorem open_slice_threeM {t e : TypeId} {f0 f1 f2 : Field} {fuel : Nat} {cs : List Value} {x : DataW H × List MemPlace} (ht : P.underlying t = some (.slice e)) (he : P.underlying e = some (.struct #[f0, f1, f2]))
    (ce : P.cellsOf e = 3) (o0 : f0.offset = 0) (o1 : f1.offset = 1) (o2 : f2.offset = 2) (c0 : P.cellsOf f0.type = 1) (c1 : P.cellsOf f1.type = 1) (c2 : P.cellsOf f2.type = 1)
    (h : DataW.trod enc P w base spare held fuel t cs = some x) :
    (cs = [.slice none 0 0] ∧ x = (.nil, [])) ∨
    ∃ (a : Addr) (len cap m n : Nat), cs = [.slice (some a) len cap] ∧ base ≤ a.block ∧ len ≤ cap ∧ cap ≤ maxLen ∧ m = (if spare a.block then cap else len) ∧
      ∀ i, i < m → ∃ (v0 v1 v2 : Value) (y0 y1 y2 : DataW H × List MemPlace), w.cell? (a.add (i * 3)) = some v0 ∧ w.cell? (a.add (i * 3 + 1)) = some v1 ∧ w.cell? (a.add (i * 3 + 2)) = some v2 ∧
        DataW.trod enc P w base spare held n f0.type [v0] = some y0 ∧ DataW.trod enc P w base spare held n f1.type [v1] = some y1 ∧ DataW.trod enc P w base spare held n f2.type [v2] = some y2 := by
  rcases Go.Deep.open_slice ht h with h0 | ⟨a, len, cap, m, n, D, Pl, rfl, hb, hl, hm, hmm, rfl, hx⟩
  · exact Or.inl h0
  refine Or.inr ⟨a, len, cap, m, n - 1, rfl, hb, hl, hm, hmm, fun i hi => ?_⟩
  obtain ⟨cs', h1, h2⟩ := hx i hi
  rw [ce] at h1
  obtain ⟨_, hlen, hcell⟩ := World.cells?_some h1
  obtain ⟨xs, k, hk, hxy, _, hxl, hf⟩ := DataW.trod_struct he h2
  have hk' : k = n - 1 := by omega
  subst hk'
  match xs, hxl, cs', hlen with
  | [y0, y1, y2], _, [v0, v1, v2], _ =>
    have g0 := hf 0 f0 rfl
    have g1 := hf 1 f1 rfl
    have g2 := hf 2 f2 rfl
    simp [o0, o1, o2, c0, c1, c2] at g0 g1 g2
    have e0 := hcell 0 (by omega)
    have e1 := hcell 1 (by omega)
    have e2 := hcell 2 (by omega)
    rw [Go.Deep.add_add] at e0 e1 e2
    exact ⟨v0, v1, v2, y0, y1, y2, by simpa using e0, by simpa using e1, by simpa using e2, g0, g1, g2⟩
end
set_option maxRecDepth 100000 in
theorem open_matchers {H : Type} {enc : TypeId × Value → H} {W : World} {r : Reach} {b0 : Nat} {v : Value} {d : DataW H} {ps : List MemPlace}
    (hval : Value.okWide Tryz.prog W r b0 22 v) (h : DataW.Trod enc Tryz.prog W 0 (fun _ => true) true 22 v d ps) :
    ∃ (A : Option Addr) (cap : Nat) (l : List Mt'), v = .slice A l.length cap ∧ (l.length ≤ cap ∧ cap ≤ maxLen) ∧ Rd W A (mcells l) ∧ ∀ m ∈ l, m.2.1.size ≤ maxLen ∧ m.2.2.size ≤ maxLen := by
  obtain ⟨a0, len, cap, rfl⟩ := okWide_slice Tryz.underlying22 hval
  obtain ⟨fuel, hf⟩ := h
  rcases open_slice_threeM Tryz.underlying22 Tryz.underlying37 (by kernel_rfl) rfl rfl rfl (by kernel_rfl) (by kernel_rfl) (by kernel_rfl) hf with ⟨hcs, _⟩ | ⟨a, len', cap', m, n, hcs, _, hl, hm, hmm, hx⟩
  · simp [Value.cells] at hcs
    obtain ⟨rfl, rfl, rfl⟩ := hcs
    exact ⟨none, 0, [], rfl, ⟨by decide, by decide⟩, Rd.nil _ _, fun o ho => by cases ho⟩
  · simp [Value.cells] at hcs
    obtain ⟨rfl, rfl, rfl⟩ := hcs
    simp only [if_true] at hmm
    rw [hmm] at hx
    clear hmm
    have each : ∀ i, i < cap → ∃ o : Mt', W.cell? (a.add (i * 3)) = some (.int .i64 o.1) ∧ W.cell? (a.add (i * 3 + 1)) = some (.string o.2.1) ∧ W.cell? (a.add (i * 3 + 2)) = some (.string o.2.2) ∧ o.2.1.size ≤ maxLen ∧ o.2.2.size ≤ maxLen := by
      intro i hi
      obtain ⟨v0, v1, v2, y0, y1, y2, k0, k1, k2, t0, t1, t2⟩ := hx i hi
      obtain ⟨n0, e0, _, _⟩ := DataW.trod_int Tryz.underlying3 t0
      obtain ⟨n1, e1, _, w1⟩ := DataW.trod_string Tryz.underlying9 t1
      obtain ⟨n2, e2, _, w2⟩ := DataW.trod_string Tryz.underlying9 t2
      simp at e0 e1 e2
      exact ⟨(n0, n1, n2), by rw [k0, e0], by rw [k1, e1], by rw [k2, e2], w1, w2⟩
    let f : Nat → Mt' := fun i => if h : i < cap then (each i h).choose else (0, ⟨#[]⟩, ⟨#[]⟩)
    have hfs : ∀ i, i < cap → W.cell? (a.add (i * 3)) = some (.int .i64 (f i).1) ∧ W.cell? (a.add (i * 3 + 1)) = some (.string (f i).2.1) ∧ W.cell? (a.add (i * 3 + 2)) = some (.string (f i).2.2) ∧ (f i).2.1.size ≤ maxLen ∧ (f i).2.2.size ≤ maxLen := by
      intro i hi
      have : f i = (each i hi).choose := dif_pos hi
      rw [this]
      exact (each i hi).choose_spec
    by_cases hc0 : len = 0
    · subst hc0
      exact ⟨some a, cap, [], rfl, ⟨by simp, hm⟩, Rd.nil _ _, fun o ho => by cases ho⟩
    · have c00 := (hfs 0 (by omega)).1
      rw [Nat.zero_mul] at c00
      obtain ⟨b, off, _, h00, _, _⟩ := addr_flat c00
      have := h00 rfl
      subst this
      refine ⟨some ⟨b, off, none⟩, cap, (List.range len).map f, by simp, ⟨by simpa using hl, hm⟩, rd_mt fun k hk => ?_, fun o ho => ?_⟩
      rotate_left
      · obtain ⟨i, hi, rfl⟩ := List.mem_map.1 ho
        exact (hfs i (by have := List.mem_range.1 hi; omega)).2.2.2
      have hk' : k < len := by simpa using hk
      obtain ⟨c0, c1, c2, _⟩ := hfs k (by omega)
      rw [add_plain] at c0 c1 c2
      rw [← Nat.add_assoc] at c1 c2
      simp only [List.getElem_map, List.getElem_range]
      exact ⟨c0, c1, c2⟩
set_option maxRecDepth 100000 in
theorem open_matcher {H : Type} {enc : TypeId × Value → H} {W : World} {r : Reach} {b0 : Nat} {v : Value} {d : DataW H} {ps : List MemPlace}
    (hval : Value.okWide Tryz.prog W r b0 37 v) (h : DataW.Trod enc Tryz.prog W 0 (fun _ => true) true 37 v d ps) :
    ∃ x : Mt', v = .agg #[.int .i64 x.1, .string x.2.1, .string x.2.2] ∧ x.2.1.size ≤ maxLen ∧ x.2.2.size ≤ maxLen := by
  obtain ⟨v0, v1, v2, y0, y1, y2, n, rfl, _, _, t0, t1, t2⟩ := Go.Joins.open_agg3 Tryz.underlying37 (by kernel_rfl) (by kernel_rfl) hval h
  obtain ⟨n0, e0, _, _⟩ := DataW.trod_int Tryz.underlying3 t0
  obtain ⟨n1, e1, _, w1⟩ := DataW.trod_string Tryz.underlying9 t1
  obtain ⟨n2, e2, _, w2⟩ := DataW.trod_string Tryz.underlying9 t2
  simp at e0 e1 e2
  exact ⟨(n0, n1, n2), by rw [e0, e1, e2], w1, w2⟩
section
set_option maxHeartbeats 1600000
set_option maxRecDepth 100000
end
end
end Go.Proofs.YtinjdlplbficiaaGreatDoor
