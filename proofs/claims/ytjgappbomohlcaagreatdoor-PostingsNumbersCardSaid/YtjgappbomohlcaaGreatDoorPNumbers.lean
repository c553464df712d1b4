/-
  PostingsNumbers (P10.3): And, Or and Less are what the plain answers are, and leave what they were handed as it is. The condition is the library's two tables': they hold what their initialisers lay, which the card ties to the program's text.
-/
import Derived.Test.YtjgappbomohlcaaGreatDoorK01
import Derived.Test.YtjgappbomohlcaaGreatDoorKPrb
import Derived.Test.YtjgappbomohlcaaGreatDoorK04
namespace Go.Proofs.YtjgappbomohlcaaGreatDoor
set_option linter.unusedVariables false
set_option linter.unusedSimpArgs false
open Go.ChangeMaps (open_string)
open Go.ChangeShapes Go.WideShapes Go.ChangeAt Go.RowKit
set_option maxRecDepth 100000 in
theorem bounds_u64Q {n : Int} (h : (Lit.int .u64 n).wf = true) : 0 ≤ n ∧ n ≤ 18446744073709551615 := by
  simp [Lit.wf, IntKind.min, IntKind.max, IntKind.signed, IntKind.bits] at h
  omega
set_option maxRecDepth 100000 in
theorem open_u64sP {H : Type} {enc : TypeId × Value → H} {W : World} {r : Reach} {b0 : Nat} {v : Value} {d : DataW H} {ps : List MemPlace}
    (hval : Value.okWide Tryz.prog W r b0 49 v) (h : DataW.Trod enc Tryz.prog W 0 (fun _ => true) true 49 v d ps) :
    ∃ (A : Option Addr) (cap : Nat) (xs : List Nat), v = .slice A xs.length cap ∧ (xs.length ≤ cap ∧ cap ≤ maxLen) ∧ Rd W A (xs.map Un) ∧ (∀ x ∈ xs, x < 18446744073709551616) := by
  obtain ⟨A, cap, zs, rfl, hm, hr, hw⟩ := open_rd Tryz.underlying49 Tryz.underlying23 (by kernel_rfl) hval h
  refine ⟨A, cap, zs.map Int.toNat, by simp, by simpa using hm, ?_, ?_⟩
  · have e : (zs.map Int.toNat).map Un = zs.map (Value.int .u64) := by
      rw [List.map_map]
      refine List.map_congr_left fun z hz => ?_
      have hb := bounds_u64Q (hw z hz)
      simp only [Function.comp, Un]
      congr 1
      omega
    rw [e]
    exact hr
  · intro x hx
    obtain ⟨z, hz, rfl⟩ := List.mem_map.1 hx
    have hb := bounds_u64Q (hw z hz)
    omega
section
set_option maxHeartbeats 3200000
set_option maxRecDepth 100000
theorem own_none (w : World) : (w.alloc (.cells #[] 23)).ownsRow w.heap.size 23 1 (.slice (some ⟨w.heap.size, 0, none⟩) ([] : List Nat).length 0) ([] : List Nat).length (([] : List Nat).map Un) :=
  ⟨rfl, .inr ⟨w.heap.size, 0, #[], rfl, Nat.le_refl _, heap_alloc_new w _, Nat.le_refl _, Nat.zero_le _, rfl, rfl⟩⟩
theorem pnumbers_walk (A B : Option Addr) (ca cb : Nat) (l m : List Nat) (w : World) (hT : Tabs w) (hx : Rd w A (l.map Un)) (hy : Rd w B (m.map Un)) (hlc : l.length ≤ ca) (hmc : m.length ≤ cb) :
    Calls Tryz.prog 6 #[.slice A l.length ca, .slice B m.length cb] w fun e w' => e = .returned (.bool true) ∧ Below w.heap.size w w' := by
  have h1 := live_any10 w hT
  have H1 := Lib.hid h1; clear h1
  have HT := Lib.hid hT; clear hT
  by_cases hl : 200 < l.length
  · have g1 : (200 : Int) < (l.length : Int) := by omega
    clear hx hy
    go_enter Tryz.func6, Tryz.ntmps6
    go_wp2_with fail
    refine H1.out.mono ?_
    rintro e w1 ⟨rfl, hb1⟩
    have h2 := live_any10 w1 (HT.out.below hb1)
    have H2 := Lib.hid h2; have HB1 := Lib.hid hb1
    clear h2 hb1
    go_wp2_with fail
    refine H2.out.mono ?_
    rintro e w2 ⟨rfl, hb2⟩
    go_wp2_with fail
    go_ret
    exact ⟨rfl, HB1.out.trans (hb2.mono HB1.out.size)⟩
  · have g1 : ¬ (200 : Int) < (l.length : Int) := by omega
    by_cases hm : 200 < m.length
    · have g2 : (200 : Int) < (m.length : Int) := by omega
      clear hx hy
      go_enter Tryz.func6, Tryz.ntmps6
      go_wp2_with fail
      refine H1.out.mono ?_
      rintro e w1 ⟨rfl, hb1⟩
      have h2 := live_any10 w1 (HT.out.below hb1)
      have H2 := Lib.hid h2; have HB1 := Lib.hid hb1
      clear h2 hb1
      go_wp2_with fail
      refine H2.out.mono ?_
      rintro e w2 ⟨rfl, hb2⟩
      go_wp2_with fail
      go_ret
      exact ⟨rfl, HB1.out.trans (hb2.mono HB1.out.size)⟩
    · have g2 : ¬ (200 : Int) < (m.length : Int) := by omega
      go_enter Tryz.func6, Tryz.ntmps6
      go_wp2_with fail
      refine H1.out.mono ?_
      rintro e w1 ⟨rfl, hb1⟩
      have HB1 := Lib.hid hb1
      have hx1 := hx.below hb1
      have hy1 := hy.below hb1
      clear hb1 hx hy
      obtain ⟨i0, hi, hz0, hz1, hz2⟩ := info_parts infoU64
      have HXA := Lib.hid (hx1.below ((Below.refl _ w1).alloc (Nat.le_refl _) (.cells #[] 23)))
      go_wp2_with (first
        | (at_builtin; (refine wpList_append_rd rfl _ _ 49 rfl w1.heap.size 23 i0 (.int .u64 0) 8 Tryz.underlying49 hi hz0 hz1 hz2 rfl _ 0 [] rfl (own_none w1) A ca (l.map Un) (by rw [List.length_map]; rfl) HXA.out (by intro u hu; obtain ⟨z, _, rfl⟩ := List.mem_map.1 hu; rfl) (by rw [List.length_map]; unfold maxLen; omega) (by rw [List.length_map]; omega) (by rw [World.size_alloc]; omega) ?_; intro v2 w2 own2 grow2)
           have o2 : w2.ownsRow w1.heap.size 23 1 v2 l.length (l.map Un) := by rw [List.length_map, Nat.zero_add, List.nil_append] at own2; exact own2
           have hb2 : Below w1.heap.size w1 w2 := ((Below.refl _ w1).alloc (Nat.le_refl _) (.cells #[] 23)).grown grow2 (by rw [World.size_alloc]; omega) (fun k h => ((own_none w1).lt k h).1)
           obtain ⟨A2, c2, hv2, hr2, -⟩ := own_rdU o2
           subst hv2
           have HR2 := Lib.hid hr2; have HB2 := Lib.hid hb2
           have HYB := Lib.hid ((hy1.below hb2).below ((Below.refl _ w2).alloc (Nat.le_refl _) (.cells #[] 23)))
           clear own2 grow2 o2 hb2 hr2)
        | (at_builtin; (refine wpList_append_rd rfl _ _ 49 rfl w2.heap.size 23 i0 (.int .u64 0) 8 Tryz.underlying49 hi hz0 hz1 hz2 rfl _ 0 [] rfl (own_none w2) B cb (m.map Un) (by rw [List.length_map]; rfl) HYB.out (by intro u hu; obtain ⟨z, _, rfl⟩ := List.mem_map.1 hu; rfl) (by rw [List.length_map]; unfold maxLen; omega) (by rw [List.length_map]; omega) (by rw [World.size_alloc]; omega) ?_; intro v3 w3 own3 grow3)
           have o3 : w3.ownsRow w2.heap.size 23 1 v3 m.length (m.map Un) := by rw [List.length_map, Nat.zero_add, List.nil_append] at own3; exact own3
           have hb3 : Below w2.heap.size w2 w3 := ((Below.refl _ w2).alloc (Nat.le_refl _) (.cells #[] 23)).grown grow3 (by rw [World.size_alloc]; omega) (fun k h => ((own_none w2).lt k h).1)
           obtain ⟨A3, c3, hv3, hr3, -⟩ := own_rdU o3
           subst hv3
           have HR3 := Lib.hid hr3; have HB3 := Lib.hid hb3
           clear own3 grow3 o3 hb3 hr3)
        | fail)
      have B13 : Below w1.heap.size w1 w3 := HB2.out.trans (HB3.out.mono HB2.out.size)
      have ra3 := hx1.below B13
      have rb3 := hy1.below B13
      have ra0 := HR2.out.below HB3.out
      have HRA := Lib.hid ra3; have HRB := Lib.hid rb3; have HA0 := Lib.hid ra0; have HB13 := Lib.hid B13
      clear ra3 rb3 ra0 B13 hx1 hy1
      refine (nand_any A2 A3 c2 c3 l m w3 HA0.out HR3.out (by omega) (by omega)).mono ?_
      rintro e w4 ⟨v4, rfl, o4, b4⟩
      obtain ⟨A4, c4, rfl, r4, -⟩ := own_rdU o4
      have B4 := Lib.hid b4; have R4 := Lib.hid r4
      clear b4 o4 r4
      go_wp2_with fail
      refine (nor_any A2 A3 c2 c3 l m w4 (HA0.out.below B4.out) (HR3.out.below B4.out) (by omega) (by omega)).mono ?_
      rintro e w5 ⟨v5, rfl, o5, b5⟩
      obtain ⟨A5, c5, rfl, r5, -⟩ := own_rdU o5
      have B5 := Lib.hid (B4.out.trans (b5.mono B4.out.size)); have R5 := Lib.hid r5; have R45 := Lib.hid (R4.out.below b5)
      clear b5 o5 r5
      go_wp2_with fail
      refine (nless_any A2 A3 c2 c3 l m w5 (HA0.out.below B5.out) (HR3.out.below B5.out) (by omega) (by omega)).mono ?_
      rintro e w6 ⟨v6, rfl, o6, b6⟩
      obtain ⟨A6, c6, rfl, r6, -⟩ := own_rdU o6
      have B6 := Lib.hid (B5.out.trans (b6.mono B5.out.size)); have R6 := Lib.hid r6; have R46 := Lib.hid (R45.out.below b6); have R56 := Lib.hid (R5.out.below b6)
      clear b6 o6 r6
      have hla : (andN l m).length ≤ 1000000 := Nat.le_trans (andN_len l m) (by omega)
      have hlo : (orN l m).length ≤ 1000000 := Nat.le_trans (orN_len l m) (by omega)
      have hle : (lessN l m).length ≤ 1000000 := Nat.le_trans (lessN_len l m) (by omega)
      go_wp2_with fail
      refine (rand_any10 A B ca cb l m w6 (HRA.out.below B6.out) (HRB.out.below B6.out) (by omega) (by omega)).mono ?_
      rintro e w7 ⟨A7, c7, rfl, r7, b7⟩
      have n7 := nums_any A4 A7 c4 c7 (andN l m) (andN l m) w7 (R46.out.below b7) r7 hla hla
      rw [decide_eq_true rfl] at n7
      have N7 := Lib.hid n7; have B7 := Lib.hid b7
      clear n7 b7 r7
      go_wp2_with fail
      refine N7.out.mono ?_
      rintro e w7' ⟨rfl, q7, rfl⟩
      have B7' := Lib.hid (show Below w6.heap.size w6 (w7.drewN q7) from ⟨B7.out.os, B7.out.tape, B7.out.output, B7.out.size, B7.out.block⟩)
      clear B7
      generalize w7.drewN q7 = w8 at B7' ⊢
      have B8 := Lib.hid (B6.out.trans (B7'.out.mono B6.out.size))
      go_wp2_with fail
      refine (ror_any10 A B ca cb l m w8 (HRA.out.below B8.out) (HRB.out.below B8.out) (by omega) (by omega)).mono ?_
      rintro e w9 ⟨A9, c9, rfl, r9, b9⟩
      have n9 := nums_any A5 A9 c5 c9 (orN l m) (orN l m) w9 ((R56.out.below B7'.out).below b9) r9 hlo hlo
      rw [decide_eq_true rfl] at n9
      have N9 := Lib.hid n9; have B9 := Lib.hid b9
      clear n9 b9 r9
      go_wp2_with fail
      refine N9.out.mono ?_
      rintro e w9' ⟨rfl, q9, rfl⟩
      have B9' := Lib.hid (show Below w8.heap.size w8 (w9.drewN q9) from ⟨B9.out.os, B9.out.tape, B9.out.output, B9.out.size, B9.out.block⟩)
      clear B9
      generalize w9.drewN q9 = w10 at B9' ⊢
      have B10 := Lib.hid (B8.out.trans (B9'.out.mono B8.out.size))
      go_wp2_with fail
      refine (rless_any10 A B ca cb l m w10 (HRA.out.below B10.out) (HRB.out.below B10.out) (by omega) (by omega)).mono ?_
      rintro e w11 ⟨A11, c11, rfl, r11, b11⟩
      have n11 := nums_any A6 A11 c6 c11 (lessN l m) (lessN l m) w11 (((R6.out.below B7'.out).below B9'.out).below b11) r11 hle hle
      rw [decide_eq_true rfl] at n11
      have N11 := Lib.hid n11; have B11 := Lib.hid b11
      clear n11 b11 r11
      go_wp2_with fail
      refine N11.out.mono ?_
      rintro e w11' ⟨rfl, q11, rfl⟩
      have B11' := Lib.hid (show Below w10.heap.size w10 (w11.drewN q11) from ⟨B11.out.os, B11.out.tape, B11.out.output, B11.out.size, B11.out.block⟩)
      clear B11
      generalize w11.drewN q11 = w12 at B11' ⊢
      have B12 := Lib.hid (B10.out.trans (B11'.out.mono B10.out.size))
      have n12 := nums_any A2 A c2 ca l l w12 (HA0.out.below B12.out) (HRA.out.below B12.out) (by omega) (by omega)
      rw [decide_eq_true rfl] at n12
      have N12 := Lib.hid n12
      clear n12
      go_wp2_with fail
      refine N12.out.mono ?_
      rintro e w12' ⟨rfl, q12, rfl⟩
      have B13 := Lib.hid (show Below w3.heap.size w3 (w12.drewN q12) from ⟨B12.out.os, B12.out.tape, B12.out.output, B12.out.size, B12.out.block⟩)
      generalize w12.drewN q12 = w13 at B13 ⊢
      have n13 := nums_any A3 B c3 cb m m w13 (HR3.out.below B13.out) (HRB.out.below B13.out) (by omega) (by omega)
      rw [decide_eq_true rfl] at n13
      have N13 := Lib.hid n13
      clear n13
      go_wp2_with fail
      refine N13.out.mono ?_
      rintro e w14' ⟨rfl, q13, rfl⟩
      have B14 := Lib.hid (show Below w3.heap.size w3 (w13.drewN q13) from ⟨B13.out.os, B13.out.tape, B13.out.output, B13.out.size, B13.out.block⟩)
      generalize w13.drewN q13 = w14 at B14 ⊢
      go_wp2_with fail
      go_ret
      exact ⟨rfl, HB1.out.trans ((HB13.out.trans (B14.out.mono HB13.out.size)).mono HB1.out.size)⟩
end


set_option maxRecDepth 100000 in
theorem postingsNumbers_contract (H : Type) (enc : TypeId × Value → H) (W : World) (base : Nat) (args : Array Value) (ds gs : List (DataW H)) (before : List MemPlace)
    (hval : ∀ (j : Nat) t v, Tryz.f6.params[j]? = some t → args[j]? = some v → Value.okWide Tryz.prog W .any base t v)
    (hW : DataW.Whole enc Tryz.prog Tryz.f6.params.toList Rows.postingsNumbersSpec.vars false W args.toList ds gs before) (hL : laidMetH Tryz.prog Rows.postingsNumbersRow.laid W) :
    Calls Tryz.prog 6 args W fun e W' => ∃ v, e = .returned v ∧ Rows.postingsNumbersSpec.post enc Tryz.prog Tryz.f6 false true false false W args v W' := by
  have hW' := hW
  obtain ⟨p, q, hA0, hV, rfl, hfz, hnd⟩ := hW
  have hA : DataW.TrodAll enc Tryz.prog W 0 (fun _ => true) true Tryz.f6.params.toList args.toList ds p := hA0
  rw [Tryz.params6] at hA hval
  obtain ⟨v0, vs0, d0, ds0, p0, q0, hargs, rfl, rfl, h0, r0⟩ := trodAll_cons hA
  obtain ⟨v1, vs1, d1, ds1, p1, q1, rfl, rfl, rfl, h1, r1⟩ := trodAll_cons r0
  obtain ⟨rfl, rfl, rfl⟩ := trodAll_nil r1
  obtain rfl : args = #[v0, v1] := by cases args; simp_all
  obtain ⟨rfl, rfl⟩ := trodVars_none hV
  obtain ⟨A0, c0, xs0, rfl, hm0, hx0, hw0⟩ := open_u64sP (hval 0 49 v0 rfl rfl) h0
  obtain ⟨A1, c1, xs1, rfl, hm1, hx1, hw1⟩ := open_u64sP (hval 1 49 v1 rfl rfl) h1
  clear hA0 hA
  unfold maxLen at hm0
  unfold maxLen at hm1
  refine (pnumbers_walk A0 A1 c0 c1 xs0 xs1 W (tabs hL) hx0 hx1 hm0.1 hm1.1).mono fun e W' ⟨he, hg⟩ => ?_
  subst he
  exact ⟨_, rfl, law_end laidOut (by kernel_rfl) (by kernel_rfl) Tryz.underlying4 rfl hW' ⟨rfl, rfl, rfl⟩ hg⟩

theorem postingsNumbers_met (os : Os) : laidMet Tryz.prog Rows.postingsNumbersRow.laid ((laidWorld os).forCall (fun _ _ => 0) ⟨#[], #[.slice none 0 0, .slice none 0 0], []⟩).memory :=
  laid_met os _
theorem postingsNumbers_reads (os : Os) {H : Type} (enc : TypeId × Value → H) : ∃ places, DataW.whole enc Tryz.prog ((laidWorld os).forCall (fun _ _ => 0) ⟨#[], #[.slice none 0 0, .slice none 0 0], []⟩).memory Tryz.f6.params.toList Rows.postingsNumbersSpec.vars false (#[.slice none 0 0, .slice none 0 0] : Array Value).toList 8 = some ([.nil, .nil], [], places) :=
  ⟨[], by kernel_rfl⟩

set_option maxRecDepth 100000 in
theorem postingsNumbers_lifted (os : Os) (started : os.Started) (H : Type) (enc : TypeId × Value → H) (F : Stop.Interp) :
    ReturnsInHanded {} Tryz.checked os 6 .any ((OpenSpec.ofChange Rows.postingsNumbersSpec).preRow enc Tryz.prog Tryz.f6 Rows.postingsNumbersRow.domain false Rows.postingsNumbersRow.laid) (((OpenSpec.ofChange Rows.postingsNumbersSpec).at F).post enc Tryz.prog Tryz.f6 false true false false) := by
  obtain ⟨places, hx⟩ := postingsNumbers_reads os enc
  refine returnsInHanded_of_row (C := Tryz.checked) (s := OpenSpec.ofChange Rows.postingsNumbersSpec) ownKn started (by kernel_rfl) Tryz.func6
    (witness_row_at (enc := enc) (C := Tryz.checked) false (laidWorld os) #[.slice none 0 0, .slice none 0 0] rfl (by kernel_rfl) (by kernel_rfl) (by kernel_rfl)
      (OpenSpec.preRow_of_cond 8 hx (by kernel_rfl) (fun k hk => by cases hk) (by kernel_rfl) (postingsNumbers_met os))) ?_
  intro W base args ds gs before hval hW _ _ _ hL _ _
  exact postingsNumbers_contract H enc W base args ds gs before hval hW hL

theorem postingsNumbers_said : Rows.PostingsNumbersSaid :=
  OpenClaim.holds_of_cond 6 Tryz.f6 rfl rfl rfl rfl rfl rfl rfl ⟨rfl, rfl, rfl, rfl, rfl⟩ rfl rfl rfl rfl rfl (by kernel_rfl) Tryz.func6 (by kernel_rfl)
    (of_decide_eq_true (by kernel_rfl)) (by unfold Func.isWrapper; first | (rw [if_pos (by decide +kernel)]; kernel_rfl) | (rw [if_neg (by decide +kernel)]; exact ⟨rfl, rfl⟩))
    (fun os started H enc _ F => by rw [OpenClaim.pre_eq_preRow]; exact postingsNumbers_lifted os started H enc F)

theorem postingsNumbers_plain (f : FuncId) (fn : Func) (hf : Tryz.pinned.checked.prog.funcNamed "manometer/manometerlaw10.PostingsNumbers" = some f) (hfn : Tryz.pinned.checked.prog.funcs[f]? = some fn) :
    true = Tryz.pinned.checked.prog.looks [] ∧ ∀ (j : Nat) t, fn.params[j]? = some t → Tryz.pinned.checked.prog.wantsStandIn t = false := by
  obtain rfl : f = 6 := Option.some.inj ((show Tryz.prog.funcNamed "manometer/manometerlaw10.PostingsNumbers" = some 6 by kernel_rfl).symm.trans hf) |>.symm
  obtain rfl : fn = Tryz.f6 := (Option.some.inj (Tryz.func6.symm.trans hfn)).symm
  refine ⟨by kernel_rfl, fun j t ht => ?_⟩
  rw [Tryz.params6] at ht
  have hm : t = 49 ∨ t = 49 := by simpa using Array.mem_of_getElem? ht
  rcases hm with rfl | rfl
  · exact (show Tryz.prog.wantsStandIn 49 = false by kernel_rfl)
  · exact (show Tryz.prog.wantsStandIn 49 = false by kernel_rfl)

theorem postingsNumbers_card : Rows.PostingsNumbersCardSaid :=
  Claim7.holds_tied_plain_at .later [] _ _ _ _ postingsNumbers_said (fun _ h => by cases h) (by kernel_rfl) (fun _ h => by cases h) postingsNumbers_row_tie rfl ⟨rfl, rfl⟩ (by kernel_rfl) rfl postingsNumbers_plain (by kernel_rfl)
#print axioms postingsNumbers_card

end Go.Proofs.YtjgappbomohlcaaGreatDoor
