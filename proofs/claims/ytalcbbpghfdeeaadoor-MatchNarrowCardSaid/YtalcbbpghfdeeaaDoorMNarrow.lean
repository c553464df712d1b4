/-
  MatchNarrow (P7.6): with more matchers no more passes, and their order does not matter. The condition is the library's two tables': they hold what their initialisers lay, which the card ties to the program's text.
-/
import Derived.Test.YtalcbbpghfdeeaaDoorMlw
import Derived.Test.YtalcbbpghfdeeaaDoorMn
namespace Go.Proofs.YtalcbbpghfdeeaaDoor
set_option linter.unusedVariables false
set_option linter.unusedSimpArgs false
open Go.ChangeMaps (open_string)
open Go.ChangeShapes Go.WideShapes Go.ChangeAt Go.RowKit
section
set_option maxHeartbeats 3200000
set_option maxRecDepth 100000
theorem passes_app (a b : List Mt') (x : List Lb) : passesM (a ++ b) x = (passesM a x && passesM b x) := by unfold passesM; rw [List.all_append]
theorem mnarrow_walk (A B C : Option Addr) (ca cb cc : Nat) (a b : List Mt') (x : List Lb) (w : World) (hT : Tabs w) (ha : Rd w A (mcells a)) (hb : Rd w B (mcells b)) (hx : Rd w C (lcells x)) :
    Calls Tryd.prog 6 #[.slice A a.length ca, .slice B b.length cb, .slice C x.length cc] w fun e w' => e = .returned (.bool true) ∧ RowKit.Below w.heap.size w w' := by
  have HLV := Lib.hid (fun (W' : World) (hb : RowKit.Below w.heap.size w W') => mlive_any W' (hT.below hb))
  have HFA := Lib.hid (fun (W' : World) (h : RowKit.Below w.heap.size w W') => mfew_any A ca a W' (ha.below h))
  have HFB := Lib.hid (fun (W' : World) (h : RowKit.Below w.heap.size w W') => mfew_any B cb b W' (hb.below h))
  have HFX := Lib.hid (fun (W' : World) (h : RowKit.Below w.heap.size w W') => short_any C cc x W' (hx.below h))
  have HA := Lib.hid ha; have HB := Lib.hid hb; have HX := Lib.hid hx; have HT := Lib.hid hT
  clear ha hb hx hT
  go_enter Tryd.func6, Tryd.ntmps6
  go_wp2_with fail
  refine (HLV.out w (RowKit.Below.refl _ _)).mono ?_
  rintro e w0 ⟨rfl, hb0⟩
  have HB0 := Lib.hid hb0; clear hb0
  go_wp2_with fail
  refine (HFA.out w0 HB0.out).mono ?_
  rintro e w1 ⟨rfl, hb1⟩
  have HB1 := Lib.hid (HB0.out.trans (hb1.mono HB0.out.size)); clear hb1
  cases hfa : fewL a with
  | false =>
    go_wp2_with fail
    refine (HLV.out w1 HB1.out).mono ?_
    rintro e w4 ⟨rfl, hb4⟩
    have HB4 := Lib.hid (HB1.out.trans (hb4.mono HB1.out.size)); clear hb4
    go_wp2
    go_ret
    exact ⟨rfl, HB4.out⟩
  | true =>
  go_wp2_with fail
  refine (HFB.out w1 HB1.out).mono ?_
  rintro e w2 ⟨rfl, hb2⟩
  have HB2 := Lib.hid (HB1.out.trans (hb2.mono HB1.out.size)); clear hb2
  cases hfb : fewL b with
  | false =>
    go_wp2_with fail
    refine (HLV.out w2 HB2.out).mono ?_
    rintro e w4 ⟨rfl, hb4⟩
    have HB4 := Lib.hid (HB2.out.trans (hb4.mono HB2.out.size)); clear hb4
    go_wp2
    go_ret
    exact ⟨rfl, HB4.out⟩
  | true =>
  go_wp2_with fail
  refine (HFX.out w2 HB2.out).mono ?_
  rintro e w3 ⟨rfl, hb3⟩
  have HB3 := Lib.hid (HB2.out.trans (hb3.mono HB2.out.size)); clear hb3
  cases hfx : shortL x with
  | false =>
    go_wp2_with fail
    refine (HLV.out w3 HB3.out).mono ?_
    rintro e w4 ⟨rfl, hb4⟩
    have HB4 := Lib.hid (HB3.out.trans (hb4.mono HB3.out.size)); clear hb4
    go_wp2
    go_ret
    exact ⟨rfl, HB4.out⟩
  | true =>
  obtain ⟨na, sa⟩ := fewL_of hfa
  obtain ⟨nb, sb⟩ := fewL_of hfb
  have nx := shortL_of hfx
  have HSA := Lib.hid sa; have HSB := Lib.hid sb
  clear hfa hfb hfx sa sb HFA HFB HFX HLV
  have HOE3 := Lib.hid (own_emptyM w3)
  have hba3 : RowKit.Below w3.heap.size w3 (w3.alloc (.cells #[] 40)) := (RowKit.Below.refl _ w3).alloc (Nat.le_refl _) _
  have HBA3 := Lib.hid hba3; clear hba3
  go_wp2_with (first
    | (refine wpList_append_mt rfl (.tmp 28) (.tmp 29) rfl rfl w3.heap.size (.slice (some ⟨w3.heap.size, 0, none⟩) 0 0) [] rfl HOE3.out A ca a rfl (HA.out.below (HB3.out.trans (HBA3.out.mono HB3.out.size))) (by simp; omega) HBA3.out.size ?_
       intro v4 w4 own4 grow4
       have hb4 : RowKit.Below w3.heap.size w3 w4 := HBA3.out.grown grow4 HBA3.out.size (fun k h => (HOE3.out.lt k h).1)
       rw [List.nil_append] at own4
       have HB4 := Lib.hid hb4; have HO4 := Lib.hid own4
       clear hb4 own4 grow4)
    | (refine wpList_append_mt rfl (.tmp 30) (.tmp 31) rfl rfl w3.heap.size v4 a rfl HO4.out B cb b rfl (HB.out.below (HB3.out.trans (HB4.out.mono HB3.out.size))) (by omega) HB4.out.size ?_
       intro v5 w5 own5 grow5
       have hb5 : RowKit.Below w3.heap.size w3 w5 := HB4.out.grown grow5 HB4.out.size (fun k h => (HO4.out.lt k h).1)
       have HB5 := Lib.hid hb5; have HO5 := Lib.hid own5
       have HOE5 := Lib.hid (own_emptyM w5)
       have HBA5 := Lib.hid (show RowKit.Below w5.heap.size w5 (w5.alloc (.cells #[] 40)) from (RowKit.Below.refl _ w5).alloc (Nat.le_refl _) _)
       have HB35 := Lib.hid (HB3.out.trans (hb5.mono HB3.out.size))
       clear hb5 own5 grow5)
    | (refine wpList_append_mt rfl (.tmp 33) (.tmp 34) rfl rfl w5.heap.size (.slice (some ⟨w5.heap.size, 0, none⟩) 0 0) [] rfl HOE5.out B cb b rfl (HB.out.below (HB35.out.trans (HBA5.out.mono HB35.out.size))) (by simp; omega) HBA5.out.size ?_
       intro v6 w6 own6 grow6
       have hb6 : RowKit.Below w5.heap.size w5 w6 := HBA5.out.grown grow6 HBA5.out.size (fun k h => (HOE5.out.lt k h).1)
       rw [List.nil_append] at own6
       have HB6 := Lib.hid hb6; have HO6 := Lib.hid own6
       clear hb6 own6 grow6)
    | (refine wpList_append_mt rfl (.tmp 35) (.tmp 36) rfl rfl w5.heap.size v6 b rfl HO6.out A ca a rfl (HA.out.below (HB35.out.trans (HB6.out.mono HB35.out.size))) (by omega) HB6.out.size ?_
       intro v7 w7 own7 grow7
       have hb7 : RowKit.Below w5.heap.size w5 w7 := HB6.out.grown grow7 HB6.out.size (fun k h => (HO6.out.lt k h).1)
       have HB7 := Lib.hid hb7; have HO7 := Lib.hid own7
       clear hb7 own7 grow7)
    | fail)
  have ho5 := own_below_mt HO5.out HB7.out
  obtain ⟨A5, c5, e5, hr5, -, -⟩ := own_rd_mt ho5
  obtain ⟨A7, c7, e7, hr7, -, -⟩ := own_rd_mt HO7.out
  subst e5; subst e7
  have HW7 := Lib.hid (HB35.out.trans (HB7.out.mono HB35.out.size))
  have lab : (a ++ b).length = a.length + b.length := List.length_append
  have lba : (b ++ a).length = b.length + a.length := List.length_append
  have sab : ∀ m ∈ a ++ b, m.2.2.size ≤ 1000000 := fun m hm => by
    rcases List.mem_append.1 hm with h | h
    · have := (HSA.out m h).2; omega
    · have := (HSB.out m h).2; omega
  have sba : ∀ m ∈ b ++ a, m.2.2.size ≤ 1000000 := fun m hm => sab m (by rw [List.mem_append] at hm ⊢; exact hm.symm)
  have sa : ∀ m ∈ a, m.2.2.size ≤ 1000000 := fun m hm => sab m (List.mem_append_left _ hm)
  have sb : ∀ m ∈ b, m.2.2.size ≤ 1000000 := fun m hm => sab m (List.mem_append_right _ hm)
  have hra := fun (W' : World) (h : RowKit.Below w7.heap.size w7 W') => mright_any A ca a W' (HA.out.below (HW7.out.trans (h.mono HW7.out.size))) (HT.out.below (HW7.out.trans (h.mono HW7.out.size))) (by omega) sa
  have hrb := fun (W' : World) (h : RowKit.Below w7.heap.size w7 W') => mright_any B cb b W' (HB.out.below (HW7.out.trans (h.mono HW7.out.size))) (HT.out.below (HW7.out.trans (h.mono HW7.out.size))) (by omega) sb
  have hr1 := fun (W' : World) (h : RowKit.Below w7.heap.size w7 W') => mright_any A5 c5 (a ++ b) W' (hr5.below h) (HT.out.below (HW7.out.trans (h.mono HW7.out.size))) (by omega) sab
  have hr2 := fun (W' : World) (h : RowKit.Below w7.heap.size w7 W') => mright_any A7 c7 (b ++ a) W' (hr7.below h) (HT.out.below (HW7.out.trans (h.mono HW7.out.size))) (by omega) sba
  have haa := fun (W' : World) (h : RowKit.Below w7.heap.size w7 W') => mall_any A ca a C cc x W' (HA.out.below (HW7.out.trans (h.mono HW7.out.size))) (HT.out.below (HW7.out.trans (h.mono HW7.out.size))) (by omega) sa (HX.out.below (HW7.out.trans (h.mono HW7.out.size))) (by omega)
  have hab := fun (W' : World) (h : RowKit.Below w7.heap.size w7 W') => mall_any B cb b C cc x W' (HB.out.below (HW7.out.trans (h.mono HW7.out.size))) (HT.out.below (HW7.out.trans (h.mono HW7.out.size))) (by omega) sb (HX.out.below (HW7.out.trans (h.mono HW7.out.size))) (by omega)
  have ha1 := fun (W' : World) (h : RowKit.Below w7.heap.size w7 W') => mall_any A5 c5 (a ++ b) C cc x W' (hr5.below h) (HT.out.below (HW7.out.trans (h.mono HW7.out.size))) (by omega) sab (HX.out.below (HW7.out.trans (h.mono HW7.out.size))) (by omega)
  have ha2 := fun (W' : World) (h : RowKit.Below w7.heap.size w7 W') => mall_any A7 c7 (b ++ a) C cc x W' (hr7.below h) (HT.out.below (HW7.out.trans (h.mono HW7.out.size))) (by omega) sba (HX.out.below (HW7.out.trans (h.mono HW7.out.size))) (by omega)
  unfold allM at haa hab ha1 ha2
  rw [passes_app] at ha1 ha2
  rw [lab] at hr1 ha1 ⊢
  rw [lba] at hr2 ha2 ⊢
  generalize passesM a x = Pa at haa ha1 ha2
  generalize passesM b x = Pb at hab ha1 ha2
  generalize rightM a = Ra at hra haa
  generalize rightM b = Rb at hrb hab
  generalize rightM (a ++ b) = R1 at hr1 ha1
  generalize rightM (b ++ a) = R2 at hr2 ha2
  have HRA := Lib.hid hra; have HRB := Lib.hid hrb; have HR1 := Lib.hid hr1; have HR2 := Lib.hid hr2
  have HAA := Lib.hid haa; have HAB := Lib.hid hab; have HA1 := Lib.hid ha1; have HA2 := Lib.hid ha2
  clear hra hrb hr1 hr2 haa hab ha1 ha2 ho5 hr5 hr7 sab sba sa sb lab lba HOE3 HBA3 HO4 HB4 HO5 HB5 HO6 HB6 HO7 HB7 HOE5 HBA5 HB35
  have HBc := Lib.hid (RowKit.Below.refl w7.heap.size w7)
  refine (HRA.out w7 HBc.out).mono ?_
  rintro e wq ⟨rfl, hbq⟩
  have hq1 := HBc.out.trans (hbq.mono HBc.out.size); have HBc := Lib.hid hq1; clear hq1 hbq
  by_cases h1 : Ra = 0
  rotate_left
  · have hc3 : (((Ra : Nat) : Int) != 0) = true := by rw [bne_iff_ne]; omega
    go_wp2
    go_ret
    exact ⟨rfl, HW7.out.trans (HBc.out.mono HW7.out.size)⟩
  subst h1
  go_wp2_with fail
  refine (HR1.out _ HBc.out).mono ?_
  rintro e wq2 ⟨rfl, hbq⟩
  have hq1 := HBc.out.trans (hbq.mono HBc.out.size); have HBc := Lib.hid hq1; clear hq1 hbq
  by_cases h1 : R1 = 0
  rotate_left
  · have hc3 : (((R1 : Nat) : Int) != 0) = true := by rw [bne_iff_ne]; omega
    go_wp2
    go_ret
    exact ⟨rfl, HW7.out.trans (HBc.out.mono HW7.out.size)⟩
  subst h1
  go_wp2_with fail
  refine (HR2.out _ HBc.out).mono ?_
  rintro e wq3 ⟨rfl, hbq⟩
  have hq1 := HBc.out.trans (hbq.mono HBc.out.size); have HBc := Lib.hid hq1; clear hq1 hbq
  by_cases h1 : R2 = 0
  rotate_left
  · have hc3 : (((R2 : Nat) : Int) != 0) = true := by rw [bne_iff_ne]; omega
    go_wp2
    go_ret
    exact ⟨rfl, HW7.out.trans (HBc.out.mono HW7.out.size)⟩
  subst h1
  have haa := HAA.out; have ha1 := HA1.out; have ha2 := HA2.out; have hab := HAB.out
  simp only [decide_true, Bool.true_and] at haa ha1 ha2
  clear HAA HA1 HA2 HAB HRA HR1 HR2
  by_cases hz : Rb = 0
  · subst hz
    simp only [decide_true, Bool.true_and] at hab
    have HAA := Lib.hid haa; have HA1 := Lib.hid ha1; have HA2 := Lib.hid ha2; have HAB := Lib.hid hab
    clear haa ha1 ha2 hab
    cases Pa
    all_goals cases Pb
    all_goals
      simp only [Bool.and_true, Bool.and_false, Bool.true_and, Bool.false_and] at HA1 HA2
      go_wp2_with (first
        | (go_at_call 25; go_must ((first | with_reducible refine (HA1.out _ HBc.out).mono ?_ | with_reducible refine (HA2.out _ HBc.out).mono ?_ | with_reducible refine (HAA.out _ HBc.out).mono ?_ | with_reducible refine (HAB.out _ HBc.out).mono ?_); rintro e wq ⟨rfl, hbq⟩; have hq1 := HBc.out.trans (hbq.mono HBc.out.size); have HBc := Lib.hid hq1; clear hq1 hbq))
        | (go_at_call 18; go_must (refine (HRB.out _ HBc.out).mono ?_; rintro e wq ⟨rfl, hbq⟩; have hq1 := HBc.out.trans (hbq.mono HBc.out.size); have HBc := Lib.hid hq1; clear hq1 hbq))
        | fail)
      go_ret
      exact ⟨rfl, HW7.out.trans (HBc.out.mono HW7.out.size)⟩
  · have HAA := Lib.hid haa; have HA1 := Lib.hid ha1; have HA2 := Lib.hid ha2; have HAB := Lib.hid hab
    clear haa ha1 ha2 hab
    have hc3 : (((Rb : Nat) : Int) != 0) = true := by rw [bne_iff_ne]; omega
    cases Pa
    all_goals cases Pb
    all_goals
      simp only [Bool.and_true, Bool.and_false, Bool.true_and, Bool.false_and] at HA1 HA2
      go_wp2_with (first
        | (go_at_call 25; go_must ((first | with_reducible refine (HA1.out _ HBc.out).mono ?_ | with_reducible refine (HA2.out _ HBc.out).mono ?_ | with_reducible refine (HAA.out _ HBc.out).mono ?_ | with_reducible refine (HAB.out _ HBc.out).mono ?_); rintro e wq ⟨rfl, hbq⟩; have hq1 := HBc.out.trans (hbq.mono HBc.out.size); have HBc := Lib.hid hq1; clear hq1 hbq))
        | (go_at_call 18; go_must (refine (HRB.out _ HBc.out).mono ?_; rintro e wq ⟨rfl, hbq⟩; have hq1 := HBc.out.trans (hbq.mono HBc.out.size); have HBc := Lib.hid hq1; clear hq1 hbq))
        | fail)
      go_ret
      exact ⟨rfl, HW7.out.trans (HBc.out.mono HW7.out.size)⟩
end

set_option maxRecDepth 100000 in
theorem matchNarrow_contract (H : Type) (enc : TypeId × Value → H) (W : World) (base : Nat) (args : Array Value) (ds gs : List (DataW H)) (before : List MemPlace)
    (hval : ∀ (j : Nat) t v, Tryd.f6.params[j]? = some t → args[j]? = some v → Value.okWide Tryd.prog W .any base t v)
    (hW : DataW.Whole enc Tryd.prog Tryd.f6.params.toList Rows.matchNarrowSpec.vars false W args.toList ds gs before) (hL : laidMetH Tryd.prog Rows.matchNarrowRow.laid W) :
    Calls Tryd.prog 6 args W fun e W' => ∃ v, e = .returned v ∧ Rows.matchNarrowSpec.post enc Tryd.prog Tryd.f6 false true false false W args v W' := by
  have hW' := hW
  obtain ⟨p, q, hA0, hV, rfl, hfz, hnd⟩ := hW
  have hA : DataW.TrodAll enc Tryd.prog W 0 (fun _ => true) true Tryd.f6.params.toList args.toList ds p := hA0
  rw [Tryd.params6] at hA hval
  obtain ⟨v0, vs0, d0, ds0, p0, q0, hargs, rfl, rfl, h0, r0⟩ := trodAll_cons hA
  obtain ⟨v1, vs1, d1, ds1, p1, q1, rfl, rfl, rfl, h1, r1⟩ := trodAll_cons r0
  obtain ⟨v2, vs2, d2, ds2, p2, q2, rfl, rfl, rfl, h2, r2⟩ := trodAll_cons r1
  obtain ⟨rfl, rfl, rfl⟩ := trodAll_nil r2
  obtain rfl : args = #[v0, v1, v2] := by cases args; simp_all
  obtain ⟨rfl, rfl⟩ := trodVars_none hV
  obtain ⟨A0, c0, m0, rfl, hm0, hx0, hs0⟩ := open_matchers (hval 0 31 v0 rfl rfl) h0
  obtain ⟨A1, c1, m1, rfl, hm1, hx1, hs1⟩ := open_matchers (hval 1 31 v1 rfl rfl) h1
  obtain ⟨A2, c2, l2, rfl, hm2, hx2, hs2⟩ := open_labels (hval 2 44 v2 rfl rfl) h2
  clear hA0 hA
  unfold maxLen at hm0 hs0
  unfold maxLen at hm1 hs1
  unfold maxLen at hm2 hs2
  refine (mnarrow_walk A0 A1 A2 c0 c1 c2 m0 m1 l2 W (tabs hL) hx0 hx1 hx2).mono fun e W' ⟨he, hg⟩ => ?_
  subst he
  exact ⟨_, rfl, law_end laidOut (by kernel_rfl) (by kernel_rfl) Tryd.underlying4 rfl hW' ⟨rfl, rfl, rfl⟩ hg⟩

theorem matchNarrow_met (os : Os) : laidMet Tryd.prog Rows.matchNarrowRow.laid ((laidWorld os).forCall (fun _ _ => 0) ⟨#[], #[.slice none 0 0, .slice none 0 0, .slice none 0 0], []⟩).memory :=
  laid_met os _
theorem matchNarrow_reads (os : Os) {H : Type} (enc : TypeId × Value → H) : ∃ places, DataW.whole enc Tryd.prog ((laidWorld os).forCall (fun _ _ => 0) ⟨#[], #[.slice none 0 0, .slice none 0 0, .slice none 0 0], []⟩).memory Tryd.f6.params.toList Rows.matchNarrowSpec.vars false (#[.slice none 0 0, .slice none 0 0, .slice none 0 0] : Array Value).toList 8 = some ([.nil, .nil, .nil], [], places) :=
  ⟨[], by kernel_rfl⟩

set_option maxRecDepth 100000 in
theorem matchNarrow_lifted (os : Os) (started : os.Started) (H : Type) (enc : TypeId × Value → H) (F : Stop.Interp) :
    ReturnsInHanded {} Tryd.checked os 6 .any ((OpenSpec.ofChange Rows.matchNarrowSpec).preRow enc Tryd.prog Tryd.f6 Rows.matchNarrowRow.domain false Rows.matchNarrowRow.laid) (((OpenSpec.ofChange Rows.matchNarrowSpec).at F).post enc Tryd.prog Tryd.f6 false true false false) := by
  obtain ⟨places, hx⟩ := matchNarrow_reads os enc
  refine returnsInHanded_of_row (C := Tryd.checked) (s := OpenSpec.ofChange Rows.matchNarrowSpec) ownKn started (by kernel_rfl) Tryd.func6
    (witness_row_at (enc := enc) (C := Tryd.checked) false (laidWorld os) #[.slice none 0 0, .slice none 0 0, .slice none 0 0] rfl (by kernel_rfl) (by kernel_rfl) (by kernel_rfl)
      (OpenSpec.preRow_of_cond 8 hx (by kernel_rfl) (fun k hk => by cases hk) (by kernel_rfl) (matchNarrow_met os))) ?_
  intro W base args ds gs before hval hW _ _ _ hL _ _
  exact matchNarrow_contract H enc W base args ds gs before hval hW hL

theorem matchNarrow_said : Rows.MatchNarrowSaid :=
  OpenClaim.holds_of_cond 6 Tryd.f6 rfl rfl rfl rfl rfl rfl rfl ⟨rfl, rfl, rfl, rfl, rfl⟩ rfl rfl rfl rfl rfl (by kernel_rfl) Tryd.func6 (by kernel_rfl)
    (of_decide_eq_true (by kernel_rfl)) (by unfold Func.isWrapper; first | (rw [if_pos (by decide +kernel)]; kernel_rfl) | (rw [if_neg (by decide +kernel)]; exact ⟨rfl, rfl⟩))
    (fun os started H enc _ F => by rw [OpenClaim.pre_eq_preRow]; exact matchNarrow_lifted os started H enc F)

theorem matchNarrow_plain (f : FuncId) (fn : Func) (hf : Tryd.pinned.checked.prog.funcNamed "manometer/manometerlaw07.MatchNarrow" = some f) (hfn : Tryd.pinned.checked.prog.funcs[f]? = some fn) :
    true = Tryd.pinned.checked.prog.looks [] ∧ ∀ (j : Nat) t, fn.params[j]? = some t → Tryd.pinned.checked.prog.wantsStandIn t = false := by
  obtain rfl : f = 6 := Option.some.inj ((show Tryd.prog.funcNamed "manometer/manometerlaw07.MatchNarrow" = some 6 by kernel_rfl).symm.trans hf) |>.symm
  obtain rfl : fn = Tryd.f6 := (Option.some.inj (Tryd.func6.symm.trans hfn)).symm
  refine ⟨by kernel_rfl, fun j t ht => ?_⟩
  rw [Tryd.params6] at ht
  have hm : t = 31 ∨ t = 31 ∨ t = 44 := by simpa using Array.mem_of_getElem? ht
  rcases hm with rfl | rfl | rfl
  · exact (show Tryd.prog.wantsStandIn 31 = false by kernel_rfl)
  · exact (show Tryd.prog.wantsStandIn 31 = false by kernel_rfl)
  · exact (show Tryd.prog.wantsStandIn 44 = false by kernel_rfl)

theorem matchNarrow_card : Rows.MatchNarrowCardSaid :=
  Claim7.holds_tied_plain_at .later [] _ _ _ _ matchNarrow_said (fun _ h => by cases h) (by kernel_rfl) (fun _ h => by cases h) matchNarrow_row_tie rfl ⟨rfl, rfl⟩ (by kernel_rfl) rfl matchNarrow_plain (by kernel_rfl)
#print axioms matchNarrow_card

end Go.Proofs.YtalcbbpghfdeeaaDoor
