/-
  PointsOrder (P9.5): a merge is the same whichever list stands first, and however three are merged; of a list with itself it is that. No condition.
-/
import Derived.Test.YtfohmepjedehfaaPv
import Derived.Test.YtfohmepjedehfaaPt8
import Derived.Test.YtfohmepjedehfaaPta
namespace Go.Proofs.Ytfohmepjedehfaa
set_option linter.unusedVariables false
set_option linter.unusedSimpArgs false
open Go.ChangeShapes Go.WideShapes Go.ChangeAt Go.RowKit

section
set_option maxHeartbeats 1600000
set_option maxRecDepth 100000
theorem merge_ok {a b : List Pt} (ha : rightB a = true) (hb : rightB b = true) : mergeP a b = (mergeL a b, 0) := by
  unfold mergeP; rw [if_neg (by rw [ha, hb]; simp)]
theorem own_rd_any {w : World} {B n c : Nat} {A : Option Addr} {l : List Pt} (h : w.ownsRow B 25 3 (.slice A n c) n (pcells l)) (hn : l.length = n) : Rd w A (pcells l) := by
  subst hn
  obtain ⟨A', c', e, h1, -, -⟩ := own_rd_pt h
  injection e with e1 e2 e3
  rw [e1]; exact h1
theorem pointsOrder_in (A B C : Option Addr) (ca cb cc : Nat) (a b c : List Pt) (w : World) (hA : Rd w A (pcells a)) (hB : Rd w B (pcells b)) (hC : Rd w C (pcells c)) (hca : a.length ≤ ca) (hcb : b.length ≤ cb) (hcc : c.length ≤ cc)
    (la : a.length ≤ 400) (lb : b.length ≤ 400) (lc : c.length ≤ 400) (ra : rightB a = true) (rb : rightB b = true) (rc : rightB c = true) :
    Calls Try.prog 7 #[.slice A a.length ca, .slice B b.length cb, .slice C c.length cc] w fun e w' => e = .returned (.bool true) ∧ RowKit.Below w.heap.size w w' := by
  have sa := ((right_iff a).1 ra).2.2; have sb := ((right_iff b).1 rb).2.2; have sc := ((right_iff c).1 rc).2.2
  have lab := merge_len a b; have lba := merge_len b a; have lbc := merge_len b c; have laa := merge_len a a
  have rab := merge_right ra rb (by omega); have rbc := merge_right rb rc (by omega)
  have labc := merge_len (mergeL a b) c; have labc2 := merge_len a (mergeL b c)
  have HA := Lib.hid hA; have HB := Lib.hid hB; have HC := Lib.hid hC
  have HFA := Lib.hid (fun w => few_any A ca a w); have HFB := Lib.hid (fun w => few_any B cb b w); have HFC := Lib.hid (fun w => few_any C cc c w)
  have HGA := Lib.hid (fun (W : World) (hb : RowKit.Below w.heap.size w W) => right_any A ca a W (HA.out.below hb) (by omega))
  have HGB := Lib.hid (fun (W : World) (hb : RowKit.Below w.heap.size w W) => right_any B cb b W (HB.out.below hb) (by omega))
  have HGC := Lib.hid (fun (W : World) (hb : RowKit.Below w.heap.size w W) => right_any C cc c W (HC.out.below hb) (by omega))
  rw [decide_eq_true la] at HFA; rw [decide_eq_true lb] at HFB; rw [decide_eq_true lc] at HFC
  rw [ra] at HGA; rw [rb] at HGB; rw [rc] at HGC
  -- the six merges
  have HM1 := Lib.hid (fun (W : World) (hb : RowKit.Below w.heap.size w W) => merge_any A B ca cb a b W (HA.out.below hb) (HB.out.below hb) hca hcb (by omega) (by omega))
  have HM2 := Lib.hid (fun (W : World) (hb : RowKit.Below w.heap.size w W) => merge_any B A cb ca b a W (HB.out.below hb) (HA.out.below hb) hcb hca (by omega) (by omega))
  have HM3 := Lib.hid (fun (W : World) (hb : RowKit.Below w.heap.size w W) => merge_any B C cb cc b c W (HB.out.below hb) (HC.out.below hb) hcb hcc (by omega) (by omega))
  have HM6 := Lib.hid (fun (W : World) (hb : RowKit.Below w.heap.size w W) => merge_any A A ca ca a a W (HA.out.below hb) (HA.out.below hb) hca hca (by omega) (by omega))
  have HM4 := Lib.hid (fun (W : World) (X : Option Addr) (cx : Nat) (hx : Rd W X (pcells (mergeL a b))) (hcx : (mergeL a b).length ≤ cx) (hb : RowKit.Below w.heap.size w W) => merge_any X C cx cc (mergeL a b) c W hx (HC.out.below hb) hcx hcc (by omega) (by omega))
  have HM5 := Lib.hid (fun (W : World) (X : Option Addr) (cx : Nat) (hx : Rd W X (pcells (mergeL b c))) (hcx : (mergeL b c).length ≤ cx) (hb : RowKit.Below w.heap.size w W) => merge_any A X ca cx a (mergeL b c) W (HA.out.below hb) hx hca hcx (by omega) (by omega))
  rw [merge_ok ra rb] at HM1; rw [merge_ok rb ra] at HM2; rw [merge_ok rb rc] at HM3; rw [merge_ok ra ra, merge_idem sa] at HM6; rw [merge_ok rab rc] at HM4; rw [merge_ok ra rbc, ← merge_assoc sa sb sc] at HM5
  rw [← merge_comm sa sb] at HM2
  unfold MergeOut at HM1 HM2 HM3 HM4 HM5 HM6
  simp only at HM1 HM2 HM3 HM4 HM5 HM6
  clear hA hB hC sa sb sc ra rb rc rab rbc
  generalize mergeL (mergeL a b) c = abc at *
  generalize mergeL a b = ab at *
  generalize mergeL b c = bc at *
  go_enter Try.func7, Try.ntmps7
  go_wp2_with (first
    | (go_at_call 9; refine (live_any w).mono ?_; rintro e w1 ⟨rfl, hb1⟩)
    | fail)
  refine (HFA.out _).mono ?_
  rintro e w2 ⟨rfl, rfl⟩
  go_wp2_with fail
  refine (HFB.out _).mono ?_
  rintro e w3 ⟨rfl, rfl⟩
  go_wp2_with fail
  refine (HFC.out _).mono ?_
  rintro e w4 ⟨rfl, rfl⟩
  go_wp2_with fail
  refine (HGA.out _ hb1).mono ?_
  rintro e w5 ⟨rfl, hb5⟩
  have B5 := Lib.hid (hb1.trans (hb5.mono hb1.size)); clear hb1 hb5
  go_wp2_with fail
  refine (HGB.out _ B5.out).mono ?_
  rintro e w6 ⟨rfl, hb6⟩
  have B6 := Lib.hid (B5.out.trans (hb6.mono B5.out.size)); clear hb6
  go_wp2_with fail
  refine (HGC.out _ B6.out).mono ?_
  rintro e w7 ⟨rfl, hb7⟩
  have B7 := Lib.hid (B6.out.trans (hb7.mono B6.out.size)); clear hb7
  go_wp2_with fail
  refine (HM1.out _ B7.out).mono ?_
  rintro e w8 ⟨A8, c8, rfl, k8, ho8, hb8⟩
  have O8 := Lib.hid ho8
  have B8 := Lib.hid (B7.out.trans (hb8.mono B7.out.size)); clear hb8 ho8
  go_wp2_with fail
  refine (HM2.out _ B8.out).mono ?_
  rintro e w9 ⟨A9, c9, rfl, k9, ho9, hb9⟩
  have O9 := Lib.hid ho9; have P8 := Lib.hid (own_below_pt O8.out hb9)
  have B9 := Lib.hid (B8.out.trans (hb9.mono B8.out.size)); clear hb9 ho9
  go_wp2_with fail
  refine (HM3.out _ B9.out).mono ?_
  rintro e w10 ⟨A10, c10, rfl, k10, ho10, hb10⟩
  have O10 := Lib.hid ho10; have Q8 := Lib.hid (own_below_pt P8.out hb10); have P9 := Lib.hid (own_below_pt O9.out hb10)
  have B10 := Lib.hid (B9.out.trans (hb10.mono B9.out.size)); clear hb10 ho10
  go_wp2_with fail
  refine (HM4.out _ A8 c8 (own_rd_any Q8.out rfl) k8 B10.out).mono ?_
  rintro e w11 ⟨A11, c11, rfl, k11, ho11, hb11⟩
  have O11 := Lib.hid ho11; have R8 := Lib.hid (own_below_pt Q8.out hb11); have Q9 := Lib.hid (own_below_pt P9.out hb11); have P10 := Lib.hid (own_below_pt O10.out hb11)
  have B11 := Lib.hid (B10.out.trans (hb11.mono B10.out.size)); clear hb11 ho11
  go_wp2_with fail
  refine (HM5.out _ A10 c10 (own_rd_any P10.out rfl) k10 B11.out).mono ?_
  rintro e w12 ⟨A12, c12, rfl, k12, ho12, hb12⟩
  have O12 := Lib.hid ho12; have S8 := Lib.hid (own_below_pt R8.out hb12); have R9 := Lib.hid (own_below_pt Q9.out hb12); have P11 := Lib.hid (own_below_pt O11.out hb12)
  have B12 := Lib.hid (B11.out.trans (hb12.mono B11.out.size)); clear hb12 ho12
  go_wp2_with fail
  refine (HM6.out _ B12.out).mono ?_
  rintro e w13 ⟨A13, c13, rfl, k13, ho13, hb13⟩
  have O13 := Lib.hid ho13; have T8 := Lib.hid (own_below_pt S8.out hb13); have S9 := Lib.hid (own_below_pt R9.out hb13); have Q11 := Lib.hid (own_below_pt P11.out hb13); have P12 := Lib.hid (own_below_pt O12.out hb13)
  have B13 := Lib.hid (B12.out.trans (hb13.mono B12.out.size)); clear hb13 ho13
  go_wp2_with fail
  refine (same_any A8 A9 c8 c9 ab ab _ (own_rd_any T8.out rfl) (own_rd_any S9.out rfl) (by omega) (by omega)).mono ?_
  rintro e w14 ⟨rfl, hb14⟩
  rw [decide_eq_true rfl]
  have U11 := Lib.hid (own_below_pt Q11.out hb14); have U12 := Lib.hid (own_below_pt P12.out hb14); have U13 := Lib.hid (own_below_pt O13.out hb14)
  have B14 := Lib.hid (B13.out.trans (hb14.mono B13.out.size)); clear hb14
  go_wp2_with fail
  refine (same_any A11 A12 c11 c12 abc abc _ (own_rd_any U11.out rfl) (own_rd_any U12.out rfl) (by omega) (by omega)).mono ?_
  rintro e w15 ⟨rfl, hb15⟩
  rw [decide_eq_true rfl]
  have V13 := Lib.hid (own_below_pt U13.out hb15)
  have B15 := Lib.hid (B14.out.trans (hb15.mono B14.out.size)); clear hb15
  go_wp2_with fail
  refine (same_any A13 A c13 ca a a _ (own_rd_any V13.out rfl) (HA.out.below B15.out) (by omega) (by omega)).mono ?_
  rintro e w16 ⟨rfl, hb16⟩
  rw [decide_eq_true rfl]
  have B16 := Lib.hid (B15.out.trans (hb16.mono B15.out.size)); clear hb16
  go_wp2
  go_ret
  exact ⟨rfl, B16.out⟩
theorem pointsOrder_walk (A B C : Option Addr) (ca cb cc : Nat) (a b c : List Pt) (w : World) (hA : Rd w A (pcells a)) (hB : Rd w B (pcells b)) (hC : Rd w C (pcells c)) (hca : a.length ≤ ca) (hcb : b.length ≤ cb) (hcc : c.length ≤ cc) :
    Calls Try.prog 7 #[.slice A a.length ca, .slice B b.length cb, .slice C c.length cc] w fun e w' => e = .returned (.bool true) ∧ RowKit.Below w.heap.size w w' := by
  by_cases hall : (a.length ≤ 400 ∧ b.length ≤ 400 ∧ c.length ≤ 400) ∧ rightB a = true ∧ rightB b = true ∧ rightB c = true
  · obtain ⟨⟨la, lb, lc⟩, ra, rb, rc⟩ := hall
    exact pointsOrder_in A B C ca cb cc a b c w hA hB hC hca hcb hcc la lb lc ra rb rc
  · have HA := Lib.hid hA; have HB := Lib.hid hB; have HC := Lib.hid hC
    clear hA hB hC
    have HFA := Lib.hid (fun w => few_any A ca a w); have HFB := Lib.hid (fun w => few_any B cb b w); have HFC := Lib.hid (fun w => few_any C cc c w)
    have HLV := Lib.hid live_any
    obtain ⟨la, hla⟩ : ∃ x, x = decide (a.length ≤ 400) := ⟨_, rfl⟩
    obtain ⟨lb, hlb⟩ : ∃ x, x = decide (b.length ≤ 400) := ⟨_, rfl⟩
    obtain ⟨lc, hlc⟩ : ∃ x, x = decide (c.length ≤ 400) := ⟨_, rfl⟩
    have HGA := Lib.hid (fun (h : la = true) (W : World) (hb : RowKit.Below w.heap.size w W) => right_any A ca a W (HA.out.below hb) (by rw [hla, decide_eq_true_iff] at h; omega))
    have HGB := Lib.hid (fun (h : lb = true) (W : World) (hb : RowKit.Below w.heap.size w W) => right_any B cb b W (HB.out.below hb) (by rw [hlb, decide_eq_true_iff] at h; omega))
    have HGC := Lib.hid (fun (h : lc = true) (W : World) (hb : RowKit.Below w.heap.size w W) => right_any C cc c W (HC.out.below hb) (by rw [hlc, decide_eq_true_iff] at h; omega))
    rw [← hla] at HFA; rw [← hlb] at HFB; rw [← hlc] at HFC
    have hno : ¬ (la = true ∧ lb = true ∧ lc = true ∧ rightB a = true ∧ rightB b = true ∧ rightB c = true) := by
      rintro ⟨h1, h2, h3, h4⟩
      rw [hla, decide_eq_true_iff] at h1; rw [hlb, decide_eq_true_iff] at h2; rw [hlc, decide_eq_true_iff] at h3
      exact hall ⟨⟨h1, h2, h3⟩, h4⟩
    generalize rightB a = ra at HGA hno
    generalize rightB b = rb at HGB hno
    generalize rightB c = rc at HGC hno
    clear hall hla hlb hlc
    have HNO := Lib.hid hno; clear hno
    go_enter Try.func7, Try.ntmps7
    go_wp2_with fail
    refine (HLV.out _).mono ?_
    rintro e w1 ⟨rfl, hb1⟩
    have B1 := Lib.hid hb1; clear hb1
    go_wp2_with fail
    refine ((HFA.out) _).mono ?_
    rintro e wf ⟨rfl, rfl⟩
    cases la with
    | false =>
      go_wp2_with fail
      refine (HLV.out _).mono ?_
      rintro e wz ⟨rfl, hbz⟩
      have BZ := Lib.hid (B1.out.trans (hbz.mono B1.out.size)); clear hbz
      go_wp2
      go_ret
      exact ⟨rfl, BZ.out⟩
    | true =>
      go_wp2_with fail
      refine ((HFB.out) _).mono ?_
      rintro e wf ⟨rfl, rfl⟩
      cases lb with
      | false =>
        go_wp2_with fail
        refine (HLV.out _).mono ?_
        rintro e wz ⟨rfl, hbz⟩
        have BZ := Lib.hid (B1.out.trans (hbz.mono B1.out.size)); clear hbz
        go_wp2
        go_ret
        exact ⟨rfl, BZ.out⟩
      | true =>
        go_wp2_with fail
        refine ((HFC.out) _).mono ?_
        rintro e wf ⟨rfl, rfl⟩
        cases lc with
        | false =>
          go_wp2_with fail
          refine (HLV.out _).mono ?_
          rintro e wz ⟨rfl, hbz⟩
          have BZ := Lib.hid (B1.out.trans (hbz.mono B1.out.size)); clear hbz
          go_wp2
          go_ret
          exact ⟨rfl, BZ.out⟩
        | true =>
          go_wp2_with fail
          refine (HGA.out trivial _ B1.out).mono ?_
          rintro e w2 ⟨rfl, hb2⟩
          have B2 := Lib.hid (B1.out.trans (hb2.mono B1.out.size)); clear hb2
          cases ra with
          | false =>
            go_wp2_with fail
            refine (HLV.out _).mono ?_
            rintro e wz ⟨rfl, hbz⟩
            have BZ := Lib.hid (B2.out.trans (hbz.mono B2.out.size)); clear hbz
            go_wp2
            go_ret
            exact ⟨rfl, BZ.out⟩
          | true =>
            go_wp2_with fail
            refine (HGB.out trivial _ B2.out).mono ?_
            rintro e w3 ⟨rfl, hb3⟩
            have B3 := Lib.hid (B2.out.trans (hb3.mono B2.out.size)); clear hb3
            cases rb with
            | false =>
              go_wp2_with fail
              refine (HLV.out _).mono ?_
              rintro e wz ⟨rfl, hbz⟩
              have BZ := Lib.hid (B3.out.trans (hbz.mono B3.out.size)); clear hbz
              go_wp2
              go_ret
              exact ⟨rfl, BZ.out⟩
            | true =>
              go_wp2_with fail
              refine (HGC.out trivial _ B3.out).mono ?_
              rintro e w4 ⟨rfl, hb4⟩
              have B4 := Lib.hid (B3.out.trans (hb4.mono B3.out.size)); clear hb4
              cases rc with
              | false =>
                go_wp2_with fail
                refine (HLV.out _).mono ?_
                rintro e wz ⟨rfl, hbz⟩
                have BZ := Lib.hid (B4.out.trans (hbz.mono B4.out.size)); clear hbz
                go_wp2
                go_ret
                exact ⟨rfl, BZ.out⟩
              | true =>
                exact absurd (by simp) HNO.out
end

set_option maxRecDepth 100000 in
theorem pointsOrder_lifted (os : Os) (started : os.Started) (H : Type) (enc : TypeId × Value → H) :
    ReturnsInHanded {} Try.checked os 7 .any (Rows.pointsOrderSpec.pre6 enc Try.prog Try.f7 Rows.pointsOrderRow.domain false) (Rows.pointsOrderSpec.post enc Try.prog Try.f7 false true false false) := by
  refine returnsInHanded_of_change (C := Try.checked) ownKn started (by kernel_rfl) Try.func7
    (ChangeSpec.witness6 (enc := enc) (C := Try.checked) false ⟨#[], #[.slice none 0 0, .slice none 0 0, .slice none 0 0], []⟩ 8 (by kernel_rfl) (by kernel_rfl) (by kernel_rfl) (by kernel_rfl)) ?_
  intro W base args ds gs before hval0 hW hcnd _
  have hval : ∀ (j : Nat) t v, Try.f7.params[j]? = some t → args[j]? = some v → Value.okWide Try.prog W .any base t v := hval0
  have hW' := hW
  obtain ⟨p, q, hA0, hV, rfl, hfz, hnd⟩ := hW
  have hA : DataW.TrodAll enc Try.prog W 0 (fun _ => true) true Try.f7.params.toList args.toList ds p := hA0
  rw [Try.params7] at hA hval
  obtain ⟨v0, vs0, d0, ds0, p0, q0, hargs, rfl, rfl, h0, r0⟩ := trodAll_cons hA
  obtain ⟨v1, vs1, d1, ds1, p1, q1, rfl, rfl, rfl, h1, r1⟩ := trodAll_cons r0
  obtain ⟨v2, vs2, d2, ds2, p2, q2, rfl, rfl, rfl, h2, r2⟩ := trodAll_cons r1
  obtain ⟨rfl, rfl, rfl⟩ := trodAll_nil r2
  obtain rfl : args = #[v0, v1, v2] := by cases args; simp_all
  obtain ⟨rfl, rfl⟩ := trodVars_none hV
  obtain ⟨A0, c0, l0, rfl, hm0, hx0⟩ := open_points (hval 0 22 v0 rfl rfl) h0
  obtain ⟨A1, c1, l1, rfl, hm1, hx1⟩ := open_points (hval 1 22 v1 rfl rfl) h1
  obtain ⟨A2, c2, l2, rfl, hm2, hx2⟩ := open_points (hval 2 22 v2 rfl rfl) h2
  clear hA0 hval0 hA
  unfold maxLen at hm0
  unfold maxLen at hm1
  unfold maxLen at hm2
  refine (pointsOrder_walk A0 A1 A2 c0 c1 c2 l0 l1 l2 W hx0 hx1 hx2 hm0.1 hm1.1 hm2.1).mono fun e W' ⟨he, hg⟩ => ?_
  subst he
  exact ⟨_, rfl, law_end laidOut (by kernel_rfl) (by kernel_rfl) Try.underlying4 rfl hW' ⟨rfl, rfl, rfl⟩ hg⟩

theorem pointsOrder_holds : Rows.PointsOrderSaid :=
  OpenClaim.holds_of_wide 7 Try.f7 rfl rfl rfl rfl rfl rfl rfl ⟨rfl, rfl, rfl, rfl, rfl⟩ rfl rfl rfl rfl rfl (by kernel_rfl) Try.func7 (by kernel_rfl)
    (of_decide_eq_true (by kernel_rfl)) (by unfold Func.isWrapper; first | (rw [if_pos (by decide +kernel)]; kernel_rfl) | (rw [if_neg (by decide +kernel)]; exact ⟨rfl, rfl⟩))
    (fun os started H enc _ => pointsOrder_lifted os started H enc)
#print axioms pointsOrder_holds

end Go.Proofs.Ytfohmepjedehfaa
