/-
  LabelsBack (P5.6): for all labels, bytes and places right labels are got again of their bytes, whatever stands behind; cut off they are none; bytes that are taken are those of the labels. The condition is the library's two tables': they hold what their initialisers lay, which the card ties to the program's text.
-/
import Derived.Test.YtmicbgcdnkomjaaDoorLw
import Derived.Test.YtmicbgcdnkomjaaDoorTa
import Derived.Test.YtmicbgcdnkomjaaDoorSm
import Derived.Test.YtmicbgcdnkomjaaDoorEq
import Derived.Test.YtmicbgcdnkomjaaDoorJoin
namespace Go.Proofs.YtmicbgcdnkomjaaDoor
set_option linter.unusedVariables false
set_option linter.unusedSimpArgs false
open Go.ChangeShapes Go.WideShapes Go.ChangeAt Go.RowKit

theorem labBytes_le : ∀ {l : List Lb}, Small l → (labBytes l).length ≤ l.length * 300
  | [], _ => by simp [labBytes]
  | x :: r, h => by
    obtain ⟨h1, h2⟩ := h x List.mem_cons_self
    have ih := labBytes_le (l := r) (fun y hy => h y (List.mem_cons_of_mem _ hy))
    have a1 := pu_len 10 x.1.size (by omega)
    have a2 := pu_len 10 x.2.size (by omega)
    rw [labBytes_cons, List.length_append, List.length_append, sizedP_len, sizedP_len, List.length_cons]
    omega
section
set_option maxHeartbeats 3200000
set_option maxRecDepth 100000
theorem lback_walk (A B : Option Addr) (ca cb : Nat) (l : List Lb) (xs : Bs) (cut : Int) (w : World) (hT : Tabs w) (ha : Rd w A (lcells l)) (hbx : Rd w B (xs.map Bv)) (hcb : xs.length ≤ cb) (hcm : cb ≤ 9223372036854775807)
    (hc0 : -9223372036854775808 ≤ cut) (hc1 : cut < 9223372036854775808) :
    Calls Tryd.prog 6 #[.slice A l.length ca, .slice B xs.length cb, .int .i64 cut] w fun e w' => e = .returned (.bool true) ∧ Below w.heap.size w w' := by
  have HT := Lib.hid hT; clear hT
  have HA := Lib.hid ha
  have HB := Lib.hid hbx
  clear ha hbx
  have hlive := live_any w HT.out
  have HL := Lib.hid hlive; clear hlive
  go_enter Tryd.func6, Tryd.ntmps6
  go_wp2_with fail
  refine HL.out.mono ?_
  rintro e w1 ⟨rfl, hb1⟩
  have HW1 := Lib.hid hb1; clear hb1
  have hf := few_any A ca l w1 (HA.out.below HW1.out)
  have HL1 := Lib.hid (fun (W : World) (hb : Below w.heap.size w W) => live_any W (HT.out.below hb))
  cases hfa : fewB l with
  | false =>
    rw [hfa] at hf
    have HF := Lib.hid hf; clear hf hfa
    go_wp2_with fail
    refine (HF.out).mono ?_
    rintro e w2 ⟨rfl, hb2⟩
    have HW2 := Lib.hid (HW1.out.trans (hb2.mono HW1.out.size)); clear hb2
    go_wp2_with fail
    refine (HL1.out _ HW2.out).mono ?_
    rintro e w3 ⟨rfl, hb3⟩
    have HW3 := Lib.hid (HW2.out.trans (hb3.mono HW2.out.size)); clear hb3
    go_wp2
    go_ret
    exact ⟨rfl, HW3.out⟩
  | true =>
    rw [hfa] at hf
    have HFA := Lib.hid (few_few hfa)
    have hl60 := (few_of hfa).1
    have HF := Lib.hid hf; clear hf hfa
    by_cases hx6 : xs.length ≤ 6000
    · have hx6' : ¬ (6000 : Int) < (xs.length : Int) := by omega
      go_wp2_with fail
      refine (HF.out).mono ?_
      rintro e w2 ⟨rfl, hb2⟩
      have HW2 := Lib.hid (HW1.out.trans (hb2.mono HW1.out.size)); clear hb2 HL1
      have hta := fun W (hw : Below w.heap.size w W) => take_any B cb xs.length xs W (HT.out.below hw) rfl (HB.out.below hw) hcb (by omega)
      obtain ⟨hsm1, h161, hle1⟩ := takeP_small xs
      have hform := @takeP_form xs
      generalize takeP xs = T at hta hsm1 h161 hle1 hform
      obtain ⟨m, n, er⟩ := T
      simp only at hsm1 h161 hle1 hform
      have HTA := Lib.hid hta; have HSM1 := Lib.hid hsm1; have HFO := Lib.hid hform; clear hta hsm1 hform
      go_wp2_with fail
      refine (HTA.out _ HW2.out).mono ?_
      rintro e w3 ⟨A3, c3, rfl, hr3, hb3⟩
      simp only at hr3 ⊢
      have HW3 := Lib.hid (HW2.out.trans (hb3.mono HW2.out.size)); clear hb3
      have HR3 := Lib.hid hr3; clear hr3
      by_cases her : er = 0
      · subst her
        obtain ⟨hbt, -⟩ := HFO.out rfl
        have hpm := put_bytes_any A3 c3 m w3 (HT.out.below HW3.out) HR3.out (small_few HSM1.out h161)
        rw [hbt] at hpm
        simp only at hpm
        have hlt : (xs.take n).length = n := by rw [List.length_take]; omega
        have HPM := Lib.hid hpm; have HLT := Lib.hid hlt; clear hpm hbt hlt
        go_wp2_with fail
        refine HPM.out.mono ?_
        rintro e w4 ⟨A4, c4, rfl, ho4, hb4⟩
        obtain ⟨A4', c4', e4, hr4, -, -, -⟩ := own_rd ho4
        injection e4 with e4 _ _
        subst e4
        have HW4 := Lib.hid (HW3.out.trans (hb4.mono HW3.out.size)); clear hb4 ho4
        have HR4 := Lib.hid hr4; clear hr4
        have hn1 : ¬ (xs.length : Int) < (n : Int) := by omega
        have hn2 : n ≤ cb := by omega
        have hmax : (if (0 : Int) < (n : Int) then (n : Int) else 0) = (n : Int) := by split <;> omega
        rw [HLT.out]
        go_wp2_with fail
        have heq := fun c => equal_at A4 B c cb n n (xs.take n) (xs.take n) w4 HLT.out HLT.out HR4.out ((HB.out.below HW4.out).bytes_take n) (by rw [HLT.out]; omega) (by rw [HLT.out]; omega)
        simp only [decide_true] at heq
        have HEQ := Lib.hid heq; clear heq
        refine (HEQ.out _).mono ?_
        rintro e w5 ⟨rfl, hd⟩
        have HWB := Lib.hid (drawn_below HW4.out hd); clear hd

        have hri := fun W (hw : Below w.heap.size w W) => right_any A ca l W (HT.out.below hw) (HA.out.below hw) HFA.out
        have hpu := fun W (hw : Below w.heap.size w W) => put_bytes_any A ca l W (HT.out.below hw) (HA.out.below hw) HFA.out
        have HRI := Lib.hid hri; have HPU := Lib.hid hpu; clear hri hpu
        have hbp : rightP l ≠ 0 → bytesP l = (rightP l, []) := fun h => by unfold bytesP; rw [if_pos h]
        have hbz : rightP l = 0 → bytesP l = (0, pu l.length ++ labBytes l) := fun h => by unfold bytesP; rw [if_neg (by omega)]
        have HBP := Lib.hid hbp; have HBZ := Lib.hid hbz; clear hbp hbz
        go_wp2_with fail
        refine (HPU.out _ HWB.out).mono ?_
        rintro e w8 ⟨A8, c8, rfl, ho8, hb8⟩
        have HW8 := Lib.hid (HWB.out.trans (hb8.mono HWB.out.size)); clear hb8
        obtain ⟨A8', c8', e8, hr8, -, hlc8, hmx8⟩ := own_rd ho8
        injection e8 with e8a e8b e8c
        have hlc : (bytesP l).2.length ≤ c8 := by rw [e8c]; exact hlc8
        have hmx : c8 ≤ maxLen := by rw [e8c]; exact hmx8
        rw [← e8a] at hr8
        have HR8 := Lib.hid hr8
        clear e8a e8b e8c hlc8 hmx8 hr8 ho8
        by_cases hr0 : rightP l = 0
        · have hbz := HBZ.out hr0
          obtain ⟨hsm, h16⟩ := right_small hr0
          have htp := fun r => takeP_put hr0 hsm h16 r
          have htc := fun i (hi : i < (pu l.length ++ labBytes l).length) => takeP_cut hsm h16 hi
          have HRI0 := Lib.hid (fun W (hw : Below w.heap.size w W) => by have := HRI.out W hw; rw [hr0] at this; exact this)
          have hr8 := HR8.out
          obtain ⟨p, hp⟩ : ∃ p, p = pu l.length ++ labBytes l := ⟨_, rfl⟩
          have hpl : p.length ≤ 100000 := by
            rw [hp, List.length_append]
            have h10 := pu_len 10 l.length (by omega)
            have hlb := labBytes_le hsm
            omega
          rw [← hp] at hbz htp htc
          rw [hbz] at hr8 hlc ⊢
          simp only at hr8 hlc ⊢
          have hmx' : c8 ≤ 9223372036854775807 := hmx
          have HTP := Lib.hid htp; have HTC := Lib.hid htc; have HRP := Lib.hid hr8; clear hr8 htp htc hbz hp hr0 HBP HBZ HRI HPU HR8 hmx
          have hj := fun W (hw : Below w8.heap.size w8 W) => join_two_own W A8 B c8 cb p xs (HRP.out.below hw) (HB.out.below (HW8.out.trans (hw.mono HW8.out.size))) (by omega)
          have HJ := Lib.hid hj; clear hj
          go_wp2_with fail
          refine (HRI0.out _ HW8.out).mono ?_
          rintro e w9 ⟨rfl, hb9⟩
          have HW9 := Lib.hid (HW8.out.trans (hb9.mono HW8.out.size))
          have HRP9 := Lib.hid (HRP.out.below hb9)
          have hj9 := HJ.out _ hb9
          have HJ9 := Lib.hid hj9; clear hj9 hb9 HJ
          go_wp2_with fail
          refine HJ9.out.mono ?_
          rintro e w10 ⟨v10, rfl, ho10, hb10⟩
          obtain ⟨N, hN⟩ : ∃ N, (p ++ xs).length = N := ⟨_, rfl⟩
          have hNl : N ≤ 200000 := by rw [← hN, List.length_append]; omega
          rw [hN] at ho10
          obtain ⟨A10, c10, hv10, hr10, -, hlc10, -⟩ := own_rd ho10
          subst hv10
          have HW10 := Lib.hid (HW9.out.trans (hb10.mono HW9.out.size))
          have HRP10 := Lib.hid (HRP9.out.below hb10); clear hb10 ho10 HRP HRP9
          have ht := take_any A10 c10 N (p ++ xs) w10 (HT.out.below HW10.out) hN hr10 hlc10 (by omega)
          rw [HTP.out xs] at ht
          have HTA := Lib.hid ht; clear ht hr10 hN
          go_wp2_with fail
          refine HTA.out.mono ?_
          rintro e w11 ⟨A11, c11, rfl, hr11, hb11⟩
          have HW11 := Lib.hid (HW10.out.trans (hb11.mono HW10.out.size))
          have HRP11 := Lib.hid (HRP10.out.below hb11); clear hb11 HRP10
          simp only at hr11 ⊢
          have hs := same_any A11 A c11 ca l l w11 hr11 (HA.out.below HW11.out) (by omega) (by omega)
          simp only [decide_true] at hs
          have HS := Lib.hid hs; clear hs hr11
          go_wp2_with fail
          refine HS.out.mono ?_
          rintro e w12 ⟨rfl, hd⟩
          have hrp12 : Rd w12 A8 (p.map Bv) := by obtain ⟨n, rfl⟩ := hd; exact HRP11.out.drewN n
          have HW12 := Lib.hid (drawn_below HW11.out hd)
          have HRP12 := Lib.hid hrp12; clear hrp12 hd HRP11
          by_cases hk0 : cut < 0
          · go_wp2
            go_ret
            exact ⟨rfl, HW12.out⟩
          · obtain ⟨cn, rfl⟩ : ∃ cn : Nat, cut = (cn : Int) := ⟨cut.toNat, by omega⟩
            have hk0' : ¬ (cn : Int) < 0 := by omega
            clear hc0 hc1 hmx'
            by_cases hk1 : p.length ≤ cn
            · have hk1' : (p.length : Int) ≤ (cn : Int) := by omega
              go_wp2
              go_ret
              exact ⟨rfl, HW12.out⟩
            · have hk1' : ¬ (p.length : Int) ≤ (cn : Int) := by omega
              have hcc : cn ≤ c8 := by omega
              have htc := HTC.out cn (by omega)
              have HTC2 := Lib.hid htc; clear htc
              go_wp2_with fail
              have ht := take_any A8 c8 cn (p.take cn) w12 (HT.out.below HW12.out) (by rw [List.length_take]; omega) (HRP12.out.bytes_take cn) hcc (by omega)
              rw [HTC2.out] at ht
              have HT13 := Lib.hid ht; clear ht
              refine HT13.out.mono ?_
              rintro e w14 ⟨A14, c14, rfl, hr14, hb14⟩
              have HW14 := Lib.hid (HW12.out.trans (hb14.mono HW12.out.size)); clear hb14 hr14
              go_wp2
              go_ret
              exact ⟨rfl, HW14.out⟩
        · have hbp := HBP.out hr0
          rw [hbp]
          simp only [List.length_nil]
          clear HBP HBZ HPU HR8 hlc hmx hbp
          obtain ⟨r, hr⟩ : ∃ r, r = rightP l := ⟨_, rfl⟩
          rw [← hr] at hr0 ⊢
          have HRI2 := Lib.hid (fun W (hw : Below w.heap.size w W) => by have := HRI.out W hw; rw [← hr] at this; exact this)
          clear hr HRI
          have g0 : ((r : Int) != 0) = true := by rw [bne_iff_ne]; omega
          go_wp2_with fail
          refine (HRI2.out _ HW8.out).mono ?_
          rintro e w9 ⟨rfl, hb9⟩
          have HW9 := Lib.hid (HW8.out.trans (hb9.mono HW8.out.size)); clear hb9
          go_wp2_with fail
          refine (HRI2.out _ HW9.out).mono ?_
          rintro e w10 ⟨rfl, hb10⟩
          have HW10 := Lib.hid (HW9.out.trans (hb10.mono HW9.out.size)); clear hb10
          go_wp2
          go_ret
          exact ⟨rfl, HW10.out⟩

      · have g0 : ((er : Int) == 0) = false := by rw [beq_eq_false_iff_ne]; omega
        have HWB := HW3

        have hri := fun W (hw : Below w.heap.size w W) => right_any A ca l W (HT.out.below hw) (HA.out.below hw) HFA.out
        have hpu := fun W (hw : Below w.heap.size w W) => put_bytes_any A ca l W (HT.out.below hw) (HA.out.below hw) HFA.out
        have HRI := Lib.hid hri; have HPU := Lib.hid hpu; clear hri hpu
        have hbp : rightP l ≠ 0 → bytesP l = (rightP l, []) := fun h => by unfold bytesP; rw [if_pos h]
        have hbz : rightP l = 0 → bytesP l = (0, pu l.length ++ labBytes l) := fun h => by unfold bytesP; rw [if_neg (by omega)]
        have HBP := Lib.hid hbp; have HBZ := Lib.hid hbz; clear hbp hbz
        go_wp2_with fail
        refine (HPU.out _ HWB.out).mono ?_
        rintro e w8 ⟨A8, c8, rfl, ho8, hb8⟩
        have HW8 := Lib.hid (HWB.out.trans (hb8.mono HWB.out.size)); clear hb8
        obtain ⟨A8', c8', e8, hr8, -, hlc8, hmx8⟩ := own_rd ho8
        injection e8 with e8a e8b e8c
        have hlc : (bytesP l).2.length ≤ c8 := by rw [e8c]; exact hlc8
        have hmx : c8 ≤ maxLen := by rw [e8c]; exact hmx8
        rw [← e8a] at hr8
        have HR8 := Lib.hid hr8
        clear e8a e8b e8c hlc8 hmx8 hr8 ho8
        by_cases hr0 : rightP l = 0
        · have hbz := HBZ.out hr0
          obtain ⟨hsm, h16⟩ := right_small hr0
          have htp := fun r => takeP_put hr0 hsm h16 r
          have htc := fun i (hi : i < (pu l.length ++ labBytes l).length) => takeP_cut hsm h16 hi
          have HRI0 := Lib.hid (fun W (hw : Below w.heap.size w W) => by have := HRI.out W hw; rw [hr0] at this; exact this)
          have hr8 := HR8.out
          obtain ⟨p, hp⟩ : ∃ p, p = pu l.length ++ labBytes l := ⟨_, rfl⟩
          have hpl : p.length ≤ 100000 := by
            rw [hp, List.length_append]
            have h10 := pu_len 10 l.length (by omega)
            have hlb := labBytes_le hsm
            omega
          rw [← hp] at hbz htp htc
          rw [hbz] at hr8 hlc ⊢
          simp only at hr8 hlc ⊢
          have hmx' : c8 ≤ 9223372036854775807 := hmx
          have HTP := Lib.hid htp; have HTC := Lib.hid htc; have HRP := Lib.hid hr8; clear hr8 htp htc hbz hp hr0 HBP HBZ HRI HPU HR8 hmx
          have hj := fun W (hw : Below w8.heap.size w8 W) => join_two_own W A8 B c8 cb p xs (HRP.out.below hw) (HB.out.below (HW8.out.trans (hw.mono HW8.out.size))) (by omega)
          have HJ := Lib.hid hj; clear hj
          go_wp2_with fail
          refine (HRI0.out _ HW8.out).mono ?_
          rintro e w9 ⟨rfl, hb9⟩
          have HW9 := Lib.hid (HW8.out.trans (hb9.mono HW8.out.size))
          have HRP9 := Lib.hid (HRP.out.below hb9)
          have hj9 := HJ.out _ hb9
          have HJ9 := Lib.hid hj9; clear hj9 hb9 HJ
          go_wp2_with fail
          refine HJ9.out.mono ?_
          rintro e w10 ⟨v10, rfl, ho10, hb10⟩
          obtain ⟨N, hN⟩ : ∃ N, (p ++ xs).length = N := ⟨_, rfl⟩
          have hNl : N ≤ 200000 := by rw [← hN, List.length_append]; omega
          rw [hN] at ho10
          obtain ⟨A10, c10, hv10, hr10, -, hlc10, -⟩ := own_rd ho10
          subst hv10
          have HW10 := Lib.hid (HW9.out.trans (hb10.mono HW9.out.size))
          have HRP10 := Lib.hid (HRP9.out.below hb10); clear hb10 ho10 HRP HRP9
          have ht := take_any A10 c10 N (p ++ xs) w10 (HT.out.below HW10.out) hN hr10 hlc10 (by omega)
          rw [HTP.out xs] at ht
          have HTA := Lib.hid ht; clear ht hr10 hN
          go_wp2_with fail
          refine HTA.out.mono ?_
          rintro e w11 ⟨A11, c11, rfl, hr11, hb11⟩
          have HW11 := Lib.hid (HW10.out.trans (hb11.mono HW10.out.size))
          have HRP11 := Lib.hid (HRP10.out.below hb11); clear hb11 HRP10
          simp only at hr11 ⊢
          have hs := same_any A11 A c11 ca l l w11 hr11 (HA.out.below HW11.out) (by omega) (by omega)
          simp only [decide_true] at hs
          have HS := Lib.hid hs; clear hs hr11
          go_wp2_with fail
          refine HS.out.mono ?_
          rintro e w12 ⟨rfl, hd⟩
          have hrp12 : Rd w12 A8 (p.map Bv) := by obtain ⟨n, rfl⟩ := hd; exact HRP11.out.drewN n
          have HW12 := Lib.hid (drawn_below HW11.out hd)
          have HRP12 := Lib.hid hrp12; clear hrp12 hd HRP11
          by_cases hk0 : cut < 0
          · go_wp2
            go_ret
            exact ⟨rfl, HW12.out⟩
          · obtain ⟨cn, rfl⟩ : ∃ cn : Nat, cut = (cn : Int) := ⟨cut.toNat, by omega⟩
            have hk0' : ¬ (cn : Int) < 0 := by omega
            clear hc0 hc1 hmx'
            by_cases hk1 : p.length ≤ cn
            · have hk1' : (p.length : Int) ≤ (cn : Int) := by omega
              go_wp2
              go_ret
              exact ⟨rfl, HW12.out⟩
            · have hk1' : ¬ (p.length : Int) ≤ (cn : Int) := by omega
              have hcc : cn ≤ c8 := by omega
              have htc := HTC.out cn (by omega)
              have HTC2 := Lib.hid htc; clear htc
              go_wp2_with fail
              have ht := take_any A8 c8 cn (p.take cn) w12 (HT.out.below HW12.out) (by rw [List.length_take]; omega) (HRP12.out.bytes_take cn) hcc (by omega)
              rw [HTC2.out] at ht
              have HT13 := Lib.hid ht; clear ht
              refine HT13.out.mono ?_
              rintro e w14 ⟨A14, c14, rfl, hr14, hb14⟩
              have HW14 := Lib.hid (HW12.out.trans (hb14.mono HW12.out.size)); clear hb14 hr14
              go_wp2
              go_ret
              exact ⟨rfl, HW14.out⟩
        · have hbp := HBP.out hr0
          rw [hbp]
          simp only [List.length_nil]
          clear HBP HBZ HPU HR8 hlc hmx hbp
          obtain ⟨r, hr⟩ : ∃ r, r = rightP l := ⟨_, rfl⟩
          rw [← hr] at hr0 ⊢
          have HRI2 := Lib.hid (fun W (hw : Below w.heap.size w W) => by have := HRI.out W hw; rw [← hr] at this; exact this)
          clear hr HRI
          have g0 : ((r : Int) != 0) = true := by rw [bne_iff_ne]; omega
          go_wp2_with fail
          refine (HRI2.out _ HW8.out).mono ?_
          rintro e w9 ⟨rfl, hb9⟩
          have HW9 := Lib.hid (HW8.out.trans (hb9.mono HW8.out.size)); clear hb9
          go_wp2_with fail
          refine (HRI2.out _ HW9.out).mono ?_
          rintro e w10 ⟨rfl, hb10⟩
          have HW10 := Lib.hid (HW9.out.trans (hb10.mono HW9.out.size)); clear hb10
          go_wp2
          go_ret
          exact ⟨rfl, HW10.out⟩

    · have hx6' : (6000 : Int) < (xs.length : Int) := by omega
      go_wp2_with fail
      refine (HF.out).mono ?_
      rintro e w2 ⟨rfl, hb2⟩
      have HW2 := Lib.hid (HW1.out.trans (hb2.mono HW1.out.size)); clear hb2
      go_wp2_with fail
      refine (HL1.out _ HW2.out).mono ?_
      rintro e w3 ⟨rfl, hb3⟩
      have HW3 := Lib.hid (HW2.out.trans (hb3.mono HW2.out.size)); clear hb3
      go_wp2
      go_ret
      exact ⟨rfl, HW3.out⟩
end

set_option maxRecDepth 100000 in
theorem labelsBack_contract (H : Type) (enc : TypeId × Value → H) (W : World) (base : Nat) (args : Array Value) (ds gs : List (DataW H)) (before : List MemPlace)
    (hval : ∀ (j : Nat) t v, Tryd.f6.params[j]? = some t → args[j]? = some v → Value.okWide Tryd.prog W .any base t v)
    (hW : DataW.Whole enc Tryd.prog Tryd.f6.params.toList Rows.labelsBackSpec.vars false W args.toList ds gs before) (hL : laidMetH Tryd.prog Rows.labelsBackRow.laid W) :
    Calls Tryd.prog 6 args W fun e W' => ∃ v, e = .returned v ∧ Rows.labelsBackSpec.post enc Tryd.prog Tryd.f6 false true false false W args v W' := by
  have hW' := hW
  obtain ⟨p, q, hA0, hV, rfl, hfz, hnd⟩ := hW
  have hA : DataW.TrodAll enc Tryd.prog W 0 (fun _ => true) true Tryd.f6.params.toList args.toList ds p := hA0
  rw [Tryd.params6] at hA hval
  obtain ⟨v0, vs0, d0, ds0, p0, q0, hargs, rfl, rfl, h0, r0⟩ := trodAll_cons hA
  obtain ⟨v1, vs1, d1, ds1, p1, q1, rfl, rfl, rfl, h1, r1⟩ := trodAll_cons r0
  obtain ⟨v2, vs2, d2, ds2, p2, q2, rfl, rfl, rfl, h2, r2⟩ := trodAll_cons r1
  obtain ⟨rfl, rfl, rfl⟩ := trodAll_nil r2
  obtain rfl : args = #[v0, v1, v2] := by cases args; simp_all
  obtain ⟨rfl, rfl⟩ := trodVars_none hV
  obtain ⟨A0, c0, l0, rfl, hm0, hx0, hs0⟩ := open_labels (hval 0 38 v0 rfl rfl) h0
  obtain ⟨A1, c1, xs1, rfl, hm1, hx1⟩ := open_bytes Tryd.underlying22 Tryd.underlying5 (by kernel_rfl) (hval 1 22 v1 rfl rfl) h1
  obtain ⟨a2, rfl, rfl, rfl, w2⟩ := open_int Tryd.underlying3 (hval 2 3 v2 rfl rfl) h2
  clear hA0 hA
  unfold maxLen at hm0 hs0
  unfold maxLen at hm1
  have b2 := bounds_i64 w2
  refine (lback_walk A0 A1 c0 c1 l0 xs1 a2 W (tabs hL) hx0 hx1 hm1.1 hm1.2 b2.1 (by omega)).mono fun e W' ⟨he, hg⟩ => ?_
  subst he
  exact ⟨_, rfl, law_end laidOut (by kernel_rfl) (by kernel_rfl) Tryd.underlying4 rfl hW' ⟨rfl, rfl, rfl⟩ hg⟩

theorem labelsBack_met (os : Os) : laidMet Tryd.prog Rows.labelsBackRow.laid ((laidWorld os).forCall (fun _ _ => 0) ⟨#[], #[.slice none 0 0, .slice none 0 0, .int .i64 0], []⟩).memory :=
  laid_met os _
theorem labelsBack_reads (os : Os) {H : Type} (enc : TypeId × Value → H) : ∃ places, DataW.whole enc Tryd.prog ((laidWorld os).forCall (fun _ _ => 0) ⟨#[], #[.slice none 0 0, .slice none 0 0, .int .i64 0], []⟩).memory Tryd.f6.params.toList Rows.labelsBackSpec.vars false (#[.slice none 0 0, .slice none 0 0, .int .i64 0] : Array Value).toList 8 = some ([.nil, .nil, .lit (.int .i64 0)], [], places) :=
  ⟨[], by kernel_rfl⟩

set_option maxRecDepth 100000 in
theorem labelsBack_lifted (os : Os) (started : os.Started) (H : Type) (enc : TypeId × Value → H) (F : Stop.Interp) :
    ReturnsInHanded {} Tryd.checked os 6 .any ((OpenSpec.ofChange Rows.labelsBackSpec).preRow enc Tryd.prog Tryd.f6 Rows.labelsBackRow.domain false Rows.labelsBackRow.laid) (((OpenSpec.ofChange Rows.labelsBackSpec).at F).post enc Tryd.prog Tryd.f6 false true false false) := by
  obtain ⟨places, hx⟩ := labelsBack_reads os enc
  refine returnsInHanded_of_row (C := Tryd.checked) (s := OpenSpec.ofChange Rows.labelsBackSpec) ownKn started (by kernel_rfl) Tryd.func6
    (witness_row_at (enc := enc) (C := Tryd.checked) false (laidWorld os) #[.slice none 0 0, .slice none 0 0, .int .i64 0] rfl (by kernel_rfl) (by kernel_rfl) (by kernel_rfl)
      (OpenSpec.preRow_of_cond 8 hx (by kernel_rfl) (fun k hk => by cases hk) (by kernel_rfl) (labelsBack_met os))) ?_
  intro W base args ds gs before hval hW _ _ _ hL _ _
  exact labelsBack_contract H enc W base args ds gs before hval hW hL

theorem labelsBack_said : Rows.LabelsBackSaid :=
  OpenClaim.holds_of_cond 6 Tryd.f6 rfl rfl rfl rfl rfl rfl rfl ⟨rfl, rfl, rfl, rfl, rfl⟩ rfl rfl rfl rfl rfl (by kernel_rfl) Tryd.func6 (by kernel_rfl)
    (of_decide_eq_true (by kernel_rfl)) (by unfold Func.isWrapper; first | (rw [if_pos (by decide +kernel)]; kernel_rfl) | (rw [if_neg (by decide +kernel)]; exact ⟨rfl, rfl⟩))
    (fun os started H enc _ F => by rw [OpenClaim.pre_eq_preRow]; exact labelsBack_lifted os started H enc F)

theorem labelsBack_plain (f : FuncId) (fn : Func) (hf : Tryd.pinned.checked.prog.funcNamed "manometer/manometerlaw05.LabelsBack" = some f) (hfn : Tryd.pinned.checked.prog.funcs[f]? = some fn) :
    false = Tryd.pinned.checked.prog.looks [] ∧ ∀ (j : Nat) t, fn.params[j]? = some t → Tryd.pinned.checked.prog.wantsStandIn t = false := by
  obtain rfl : f = 6 := Option.some.inj ((show Tryd.prog.funcNamed "manometer/manometerlaw05.LabelsBack" = some 6 by kernel_rfl).symm.trans hf) |>.symm
  obtain rfl : fn = Tryd.f6 := (Option.some.inj (Tryd.func6.symm.trans hfn)).symm
  refine ⟨by kernel_rfl, fun j t ht => ?_⟩
  rw [Tryd.params6] at ht
  have hm : t = 38 ∨ t = 22 ∨ t = 3 := by simpa using Array.mem_of_getElem? ht
  rcases hm with rfl | rfl | rfl
  · exact (show Tryd.prog.wantsStandIn 38 = false by kernel_rfl)
  · exact (show Tryd.prog.wantsStandIn 22 = false by kernel_rfl)
  · exact (show Tryd.prog.wantsStandIn 3 = false by kernel_rfl)

theorem labelsBack_card : Rows.LabelsBackCardSaid :=
  Claim7.holds_tied_plain_at .later [] _ _ _ _ labelsBack_said (fun _ h => by cases h) (by kernel_rfl) (fun _ h => by cases h) labelsBack_row_tie rfl ⟨rfl, rfl⟩ (by kernel_rfl) rfl labelsBack_plain (by kernel_rfl)
#print axioms labelsBack_card
end Go.Proofs.YtmicbgcdnkomjaaDoor
