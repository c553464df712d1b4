/-
  RexEither (P6.6): of two patterns in brackets with a bar between either may match, and with one behind the other one what both match stands so. No condition.
-/
import Derived.Test.YtdihaabjmlhemaaLaw
import Derived.Test.YtdihaabjmlhemaaRle
import Derived.ChangeMaps5
namespace Go.Proofs.Ytdihaabjmlhemaa
set_option linter.unusedVariables false
set_option linter.unusedSimpArgs false
open Go.ChangeShapes Go.WideShapes Go.ChangeAt Go.RowKit Go.ChangeMaps

section
set_option maxHeartbeats 6400000
set_option maxRecDepth 100000
theorem match_m (b : Nat) (st : ByteArray) (t : Re) (S : Bs) (w : World) (h : RexIs w b st t) : Calls Try.prog 11 #[.pointer (some ⟨b, 0, none⟩), .string (mkB S)] w fun e w' => e = .returned (.bool (mB t (runesB S))) ∧ Below w.heap.size w w' := by
  have := match_any b st t (mkB S) w h
  rw [bl_mk] at this; exact this
theorem rexEither_in (P Q S U : Bs) (w : World) (hP : P.length ≤ 256) (hQ : Q.length ≤ 256) (hS : S.length ≤ 60) (hU : U.length ≤ 60) (hdS : Lib.validD S = true) (hdU : Lib.validD U = true)
    (HVS : Hid (∀ W, Calls Try.prog 15 #[.string (mkB S)] W fun e w' => e = .returned (.bool true) ∧ Below W.heap.size W w')) (HVU : Hid (∀ W, Calls Try.prog 15 #[.string (mkB U)] W fun e w' => e = .returned (.bool true) ∧ Below W.heap.size W w')) :
    Calls Try.prog 5 #[.string (mkB P), .string (mkB Q), .string (mkB S), .string (mkB U)] w fun e w' => e = .returned (.bool true) ∧ Below w.heap.size w w' := by
  have dP : decide ((256 : Int) < ((mkB P).size : Int)) = false := by rw [← bl_len, bl_mk]; simp; omega
  have gP : ¬ (256 : Int) < ((mkB P).size : Int) := by rw [← bl_len, bl_mk]; omega
  have dQ : decide ((256 : Int) < ((mkB Q).size : Int)) = false := by rw [← bl_len, bl_mk]; simp; omega
  have gQ : ¬ (256 : Int) < ((mkB Q).size : Int) := by rw [← bl_len, bl_mk]; omega
  have dS : decide ((60 : Int) < ((mkB S).size : Int)) = false := by rw [← bl_len, bl_mk]; simp; omega
  have gS : ¬ (60 : Int) < ((mkB S).size : Int) := by rw [← bl_len, bl_mk]; omega
  have dU : decide ((60 : Int) < ((mkB U).size : Int)) = false := by rw [← bl_len, bl_mk]; simp; omega
  have gU : ¬ (60 : Int) < ((mkB U).size : Int) := by rw [← bl_len, bl_mk]; omega
  have HL := Lib.hid (fun W => live_any W)
  have HT := Lib.hid (fun W => two_any P Q W hP hQ)
  have hst : ∀ u, (Op.stringOp .add (mkB S) (mkB U)).run Try.prog u = .ok (.string (mkB (S ++ U))) u := fun u => add_text u S U (by omega)
  have ha1 : ∀ u, (Op.stringOp .add ⟨#[40]⟩ (mkB P)).run Try.prog u = .ok (.string (mkB (40 :: P))) u := fun u => add_text u [40] P (by simp; omega)
  have ha2 : ∀ u, (Op.stringOp .add (mkB (40 :: P)) ⟨#[41, 40]⟩).run Try.prog u = .ok (.string (mkB (40 :: (P ++ [41, 40])))) u := fun u => add_text u (40 :: P) [41, 40] (by simp; omega)
  have ha3 : ∀ u, (Op.stringOp .add (mkB (40 :: (P ++ [41, 40]))) (mkB Q)).run Try.prog u = .ok (.string (mkB (40 :: (P ++ [41, 40]) ++ Q))) u := fun u => add_text u (40 :: (P ++ [41, 40])) Q (by simp; omega)
  have ha4 : ∀ u, (Op.stringOp .add (mkB (40 :: (P ++ [41, 40]) ++ Q)) ⟨#[41]⟩).run Try.prog u = .ok (.string (mkB (grpT P (grpT Q [])))) u := fun u => by
    have := add_text u (40 :: (P ++ [41, 40]) ++ Q) [41] (by simp; omega)
    have e : 40 :: (P ++ [41, 40]) ++ Q ++ [41] = grpT P (grpT Q []) := by simp [grpT]
    rw [e] at this; exact this
  have hc2 : ∀ u, (Op.stringOp .add (mkB (40 :: P)) ⟨#[41, 124, 40]⟩).run Try.prog u = .ok (.string (mkB (40 :: (P ++ [41, 124, 40])))) u := fun u => add_text u (40 :: P) [41, 124, 40] (by simp; omega)
  have hc3 : ∀ u, (Op.stringOp .add (mkB (40 :: (P ++ [41, 124, 40]))) (mkB Q)).run Try.prog u = .ok (.string (mkB (40 :: (P ++ [41, 124, 40]) ++ Q))) u := fun u => add_text u (40 :: (P ++ [41, 124, 40])) Q (by simp; omega)
  have hc4 : ∀ u, (Op.stringOp .add (mkB (40 :: (P ++ [41, 124, 40]) ++ Q)) ⟨#[41]⟩).run Try.prog u = .ok (.string (mkB (grpT P (124 :: grpT Q [])))) u := fun u => by
    have := add_text u (40 :: (P ++ [41, 124, 40]) ++ Q) [41] (by simp; omega)
    have e : 40 :: (P ++ [41, 124, 40]) ++ Q ++ [41] = grpT P (124 :: grpT Q []) := by simp [grpT]
    rw [e] at this; exact this
  obtain ⟨TW, hTW⟩ : ∃ TW, twoP P Q = TW := ⟨_, rfl⟩
  rw [hTW] at HT
  have hpe := fun W => parse_any (mkB (grpT P (124 :: grpT Q []))) W
  have hpo := fun W => parse_any (mkB (grpT P (grpT Q []))) W
  rw [bl_mk] at hpe hpo
  have hpe2 : ∀ a b, TW = some (a, b) → rxP (grpT P (124 :: grpT Q [])) = .ok (.alt (.cat .none a) (.cat .none b)) ∧ rxP (grpT P (grpT Q [])) = .ok (.cat (.cat .none a) b) := fun a b e => by
    rw [← hTW] at e
    obtain ⟨_, _, hl, fa, fb⟩ := two_fits e
    exact ⟨rx_of (either_is fa fb) (by simp [grpT]; omega), rx_of (both_is fa fb) (by simp [grpT]; omega)⟩
  have HPE := Lib.hid hpe; have HPO := Lib.hid hpo; have HP2 := Lib.hid hpe2
  have HRU := Lib.hid (runes_app (s := S) (t := U) hdS)
  obtain ⟨L1, hL1⟩ : ∃ L1, 40 :: P = L1 := ⟨_, rfl⟩
  rw [hL1] at ha1 ha2 hc2
  obtain ⟨L2, hL2⟩ : ∃ L2, 40 :: (P ++ [41, 40]) = L2 := ⟨_, rfl⟩
  rw [hL2] at ha2 ha3 ha4
  obtain ⟨L3, hL3⟩ : ∃ L3, L2 ++ Q = L3 := ⟨_, rfl⟩
  rw [hL3] at ha3 ha4
  obtain ⟨L4, hL4⟩ : ∃ L4, 40 :: (P ++ [41, 124, 40]) = L4 := ⟨_, rfl⟩
  rw [hL4] at hc2 hc3 hc4
  obtain ⟨L5, hL5⟩ : ∃ L5, L4 ++ Q = L5 := ⟨_, rfl⟩
  rw [hL5] at hc3 hc4
  obtain ⟨GE, hGE⟩ : ∃ GE, grpT P (124 :: grpT Q []) = GE := ⟨_, rfl⟩
  rw [hGE] at hc4 HPE HP2
  obtain ⟨GO, hGO⟩ : ∃ GO, grpT P (grpT Q []) = GO := ⟨_, rfl⟩
  rw [hGO] at ha4 HPO HP2
  obtain ⟨SU, hSU⟩ : ∃ SU, S ++ U = SU := ⟨_, rfl⟩
  rw [hSU] at hst HRU
  clear hL1 hL2 hL3 hL4 hL5 hGE hGO hSU hTW hpe hpo hpe2 hP hQ hS hU hdS hdU
  cases TW with
  | none =>
    go_enter Try.func5, Try.ntmps5
    go_wp2_with fail
    refine (HL.out _).mono ?_
    rintro e w1 ⟨rfl, hb1⟩
    have HB1 := Lib.hid hb1
    clear hb1
    go_wp2_with fail
    refine (HVS.out _).mono ?_
    rintro e w2 ⟨rfl, hb2⟩
    have HB2 := Lib.hid (HB1.out.trans (hb2.mono HB1.out.size))
    clear hb2
    go_wp2_with fail
    refine (HVU.out _).mono ?_
    rintro e w3 ⟨rfl, hb3⟩
    have HB3 := Lib.hid (HB2.out.trans (hb3.mono HB2.out.size))
    clear hb3
    go_wp2_with fail
    refine (HT.out _).mono ?_
    rintro e w4 ⟨rfl, hb4⟩
    have HB4 := Lib.hid (HB3.out.trans (hb4.mono HB3.out.size))
    clear hb4
    go_wp2
    go_ret
    exact ⟨rfl, HB4.out⟩
  | some ab =>
    obtain ⟨ta, tb⟩ := ab
    obtain ⟨he, ho⟩ := HP2.out ta tb rfl
    rw [he] at HPE
    rw [ho] at HPO
    clear he ho HP2
    have HME := Lib.hid (mB_either ta tb (runesB S))
    have HMO := Lib.hid (fun h k => mB_both (a := ta) (b := tb) (u := runesB S) (v := runesB U) h k)
    rw [← HRU.out] at HMO
    cases hAs : mB ta (runesB S) with
    | true =>
      have HAs := Lib.hid hAs
      clear hAs
      cases hBt : mB tb (runesB U) with
      | true =>
        have HBt := Lib.hid hBt
        clear hBt
        go_enter Try.func5, Try.ntmps5
        go_wp2_with fail
        refine (HL.out _).mono ?_
        rintro e w1 ⟨rfl, hb1⟩
        have HB1 := Lib.hid hb1
        clear hb1
        go_wp2_with fail
        refine (HVS.out _).mono ?_
        rintro e w2 ⟨rfl, hb2⟩
        have HB2 := Lib.hid (HB1.out.trans (hb2.mono HB1.out.size))
        clear hb2
        go_wp2_with fail
        refine (HVU.out _).mono ?_
        rintro e w3 ⟨rfl, hb3⟩
        have HB3 := Lib.hid (HB2.out.trans (hb3.mono HB2.out.size))
        clear hb3
        go_wp2_with fail
        refine (HT.out _).mono ?_
        rintro e w4 ⟨xa, xb, rfl, ha4, hb4', hb4⟩
        have HB4 := Lib.hid (HB3.out.trans (hb4.mono HB3.out.size))
        clear hb4
        have Ha4 := Lib.hid ha4; have Hb4 := Lib.hid hb4'; clear ha4 hb4'
        go_wp2_with fail
        refine (HPE.out _).mono ?_
        rintro e w5 ⟨xe, rfl, -, he5, hb5⟩
        have HB5 := Lib.hid (HB4.out.trans (hb5.mono HB4.out.size))
        have Ha5 := Lib.hid (Ha4.out.below hb5)
        have Hb5 := Lib.hid (Hb4.out.below hb5)
        clear hb5
        have He5 := Lib.hid he5; clear he5
        go_wp2_with fail
        refine (HPO.out _).mono ?_
        rintro e w6 ⟨xo, rfl, -, ho6, hb6⟩
        have HB6 := Lib.hid (HB5.out.trans (hb6.mono HB5.out.size))
        have Ha6 := Lib.hid (Ha5.out.below hb6)
        have Hb6 := Lib.hid (Hb5.out.below hb6)
        have He6 := Lib.hid (He5.out.below hb6)
        clear hb6
        have Ho6 := Lib.hid ho6; clear ho6
        have hm6 := match_m xe _ _ S w6 He6.out
        rw [HME.out, HAs.out, Bool.true_or] at hm6
        have HM6 := Lib.hid hm6; clear hm6
        go_wp2_with fail
        refine (HM6.out).mono ?_
        rintro e w7 ⟨rfl, hb7⟩
        have HB7 := Lib.hid (HB6.out.trans (hb7.mono HB6.out.size))
        have Ha7 := Lib.hid (Ha6.out.below hb7)
        have Hb7 := Lib.hid (Hb6.out.below hb7)
        have He7 := Lib.hid (He6.out.below hb7)
        have Ho7 := Lib.hid (Ho6.out.below hb7)
        clear hb7
        have hm7 := match_m xa _ _ S w7 Ha7.out
        rw [HAs.out] at hm7
        have HM7 := Lib.hid hm7; clear hm7
        go_wp2_with fail
        refine (HM7.out).mono ?_
        rintro e w8 ⟨rfl, hb8⟩
        have HB8 := Lib.hid (HB7.out.trans (hb8.mono HB7.out.size))
        have Ha8 := Lib.hid (Ha7.out.below hb8)
        have Hb8 := Lib.hid (Hb7.out.below hb8)
        have He8 := Lib.hid (He7.out.below hb8)
        have Ho8 := Lib.hid (Ho7.out.below hb8)
        clear hb8
        have hm8 := match_m xa _ _ S w8 Ha8.out
        rw [HAs.out] at hm8
        have HM8 := Lib.hid hm8; clear hm8
        go_wp2_with fail
        refine (HM8.out).mono ?_
        rintro e w9 ⟨rfl, hb9⟩
        have HB9 := Lib.hid (HB8.out.trans (hb9.mono HB8.out.size))
        have Ha9 := Lib.hid (Ha8.out.below hb9)
        have Hb9 := Lib.hid (Hb8.out.below hb9)
        have He9 := Lib.hid (He8.out.below hb9)
        have Ho9 := Lib.hid (Ho8.out.below hb9)
        clear hb9
        have hm9 := match_m xb _ _ U w9 Hb9.out
        rw [HBt.out] at hm9
        have HM9 := Lib.hid hm9; clear hm9
        go_wp2_with fail
        refine (HM9.out).mono ?_
        rintro e w10 ⟨rfl, hb10⟩
        have HB10 := Lib.hid (HB9.out.trans (hb10.mono HB9.out.size))
        have Ha10 := Lib.hid (Ha9.out.below hb10)
        have Hb10 := Lib.hid (Hb9.out.below hb10)
        have He10 := Lib.hid (He9.out.below hb10)
        have Ho10 := Lib.hid (Ho9.out.below hb10)
        clear hb10
        have hm10 := match_m xo _ _ SU w10 Ho10.out
        rw [HMO.out HAs.out HBt.out] at hm10
        have HM10 := Lib.hid hm10; clear hm10
        go_wp2_with fail
        refine (HM10.out).mono ?_
        rintro e w11 ⟨rfl, hb11⟩
        have HB11 := Lib.hid (HB10.out.trans (hb11.mono HB10.out.size))
        have Ha11 := Lib.hid (Ha10.out.below hb11)
        have Hb11 := Lib.hid (Hb10.out.below hb11)
        have He11 := Lib.hid (He10.out.below hb11)
        have Ho11 := Lib.hid (Ho10.out.below hb11)
        clear hb11
        go_wp2
        go_ret
        exact ⟨rfl, HB11.out⟩
      | false =>
        have HBt := Lib.hid hBt
        clear hBt
        go_enter Try.func5, Try.ntmps5
        go_wp2_with fail
        refine (HL.out _).mono ?_
        rintro e w1 ⟨rfl, hb1⟩
        have HB1 := Lib.hid hb1
        clear hb1
        go_wp2_with fail
        refine (HVS.out _).mono ?_
        rintro e w2 ⟨rfl, hb2⟩
        have HB2 := Lib.hid (HB1.out.trans (hb2.mono HB1.out.size))
        clear hb2
        go_wp2_with fail
        refine (HVU.out _).mono ?_
        rintro e w3 ⟨rfl, hb3⟩
        have HB3 := Lib.hid (HB2.out.trans (hb3.mono HB2.out.size))
        clear hb3
        go_wp2_with fail
        refine (HT.out _).mono ?_
        rintro e w4 ⟨xa, xb, rfl, ha4, hb4', hb4⟩
        have HB4 := Lib.hid (HB3.out.trans (hb4.mono HB3.out.size))
        clear hb4
        have Ha4 := Lib.hid ha4; have Hb4 := Lib.hid hb4'; clear ha4 hb4'
        go_wp2_with fail
        refine (HPE.out _).mono ?_
        rintro e w5 ⟨xe, rfl, -, he5, hb5⟩
        have HB5 := Lib.hid (HB4.out.trans (hb5.mono HB4.out.size))
        have Ha5 := Lib.hid (Ha4.out.below hb5)
        have Hb5 := Lib.hid (Hb4.out.below hb5)
        clear hb5
        have He5 := Lib.hid he5; clear he5
        go_wp2_with fail
        refine (HPO.out _).mono ?_
        rintro e w6 ⟨xo, rfl, -, ho6, hb6⟩
        have HB6 := Lib.hid (HB5.out.trans (hb6.mono HB5.out.size))
        have Ha6 := Lib.hid (Ha5.out.below hb6)
        have Hb6 := Lib.hid (Hb5.out.below hb6)
        have He6 := Lib.hid (He5.out.below hb6)
        clear hb6
        have Ho6 := Lib.hid ho6; clear ho6
        have hm6 := match_m xe _ _ S w6 He6.out
        rw [HME.out, HAs.out, Bool.true_or] at hm6
        have HM6 := Lib.hid hm6; clear hm6
        go_wp2_with fail
        refine (HM6.out).mono ?_
        rintro e w7 ⟨rfl, hb7⟩
        have HB7 := Lib.hid (HB6.out.trans (hb7.mono HB6.out.size))
        have Ha7 := Lib.hid (Ha6.out.below hb7)
        have Hb7 := Lib.hid (Hb6.out.below hb7)
        have He7 := Lib.hid (He6.out.below hb7)
        have Ho7 := Lib.hid (Ho6.out.below hb7)
        clear hb7
        have hm7 := match_m xa _ _ S w7 Ha7.out
        rw [HAs.out] at hm7
        have HM7 := Lib.hid hm7; clear hm7
        go_wp2_with fail
        refine (HM7.out).mono ?_
        rintro e w8 ⟨rfl, hb8⟩
        have HB8 := Lib.hid (HB7.out.trans (hb8.mono HB7.out.size))
        have Ha8 := Lib.hid (Ha7.out.below hb8)
        have Hb8 := Lib.hid (Hb7.out.below hb8)
        have He8 := Lib.hid (He7.out.below hb8)
        have Ho8 := Lib.hid (Ho7.out.below hb8)
        clear hb8
        have hm8 := match_m xa _ _ S w8 Ha8.out
        rw [HAs.out] at hm8
        have HM8 := Lib.hid hm8; clear hm8
        go_wp2_with fail
        refine (HM8.out).mono ?_
        rintro e w9 ⟨rfl, hb9⟩
        have HB9 := Lib.hid (HB8.out.trans (hb9.mono HB8.out.size))
        have Ha9 := Lib.hid (Ha8.out.below hb9)
        have Hb9 := Lib.hid (Hb8.out.below hb9)
        have He9 := Lib.hid (He8.out.below hb9)
        have Ho9 := Lib.hid (Ho8.out.below hb9)
        clear hb9
        have hm9 := match_m xb _ _ U w9 Hb9.out
        rw [HBt.out] at hm9
        have HM9 := Lib.hid hm9; clear hm9
        go_wp2_with fail
        refine (HM9.out).mono ?_
        rintro e w10 ⟨rfl, hb10⟩
        have HB10 := Lib.hid (HB9.out.trans (hb10.mono HB9.out.size))
        have Ha10 := Lib.hid (Ha9.out.below hb10)
        have Hb10 := Lib.hid (Hb9.out.below hb10)
        have He10 := Lib.hid (He9.out.below hb10)
        have Ho10 := Lib.hid (Ho9.out.below hb10)
        clear hb10
        go_wp2
        go_ret
        exact ⟨rfl, HB10.out⟩
    | false =>
      have HAs := Lib.hid hAs
      clear hAs
      cases hBs : mB tb (runesB S) with
      | true =>
        have HBs := Lib.hid hBs
        clear hBs
        go_enter Try.func5, Try.ntmps5
        go_wp2_with fail
        refine (HL.out _).mono ?_
        rintro e w1 ⟨rfl, hb1⟩
        have HB1 := Lib.hid hb1
        clear hb1
        go_wp2_with fail
        refine (HVS.out _).mono ?_
        rintro e w2 ⟨rfl, hb2⟩
        have HB2 := Lib.hid (HB1.out.trans (hb2.mono HB1.out.size))
        clear hb2
        go_wp2_with fail
        refine (HVU.out _).mono ?_
        rintro e w3 ⟨rfl, hb3⟩
        have HB3 := Lib.hid (HB2.out.trans (hb3.mono HB2.out.size))
        clear hb3
        go_wp2_with fail
        refine (HT.out _).mono ?_
        rintro e w4 ⟨xa, xb, rfl, ha4, hb4', hb4⟩
        have HB4 := Lib.hid (HB3.out.trans (hb4.mono HB3.out.size))
        clear hb4
        have Ha4 := Lib.hid ha4; have Hb4 := Lib.hid hb4'; clear ha4 hb4'
        go_wp2_with fail
        refine (HPE.out _).mono ?_
        rintro e w5 ⟨xe, rfl, -, he5, hb5⟩
        have HB5 := Lib.hid (HB4.out.trans (hb5.mono HB4.out.size))
        have Ha5 := Lib.hid (Ha4.out.below hb5)
        have Hb5 := Lib.hid (Hb4.out.below hb5)
        clear hb5
        have He5 := Lib.hid he5; clear he5
        go_wp2_with fail
        refine (HPO.out _).mono ?_
        rintro e w6 ⟨xo, rfl, -, ho6, hb6⟩
        have HB6 := Lib.hid (HB5.out.trans (hb6.mono HB5.out.size))
        have Ha6 := Lib.hid (Ha5.out.below hb6)
        have Hb6 := Lib.hid (Hb5.out.below hb6)
        have He6 := Lib.hid (He5.out.below hb6)
        clear hb6
        have Ho6 := Lib.hid ho6; clear ho6
        have hm6 := match_m xe _ _ S w6 He6.out
        rw [HME.out, HAs.out, HBs.out] at hm6
        have HM6 := Lib.hid hm6; clear hm6
        go_wp2_with fail
        refine (HM6.out).mono ?_
        rintro e w7 ⟨rfl, hb7⟩
        have HB7 := Lib.hid (HB6.out.trans (hb7.mono HB6.out.size))
        have Ha7 := Lib.hid (Ha6.out.below hb7)
        have Hb7 := Lib.hid (Hb6.out.below hb7)
        have He7 := Lib.hid (He6.out.below hb7)
        have Ho7 := Lib.hid (Ho6.out.below hb7)
        clear hb7
        have hm7 := match_m xa _ _ S w7 Ha7.out
        rw [HAs.out] at hm7
        have HM7 := Lib.hid hm7; clear hm7
        go_wp2_with fail
        refine (HM7.out).mono ?_
        rintro e w8 ⟨rfl, hb8⟩
        have HB8 := Lib.hid (HB7.out.trans (hb8.mono HB7.out.size))
        have Ha8 := Lib.hid (Ha7.out.below hb8)
        have Hb8 := Lib.hid (Hb7.out.below hb8)
        have He8 := Lib.hid (He7.out.below hb8)
        have Ho8 := Lib.hid (Ho7.out.below hb8)
        clear hb8
        have hm8 := match_m xb _ _ S w8 Hb8.out
        rw [HBs.out] at hm8
        have HM8 := Lib.hid hm8; clear hm8
        go_wp2_with fail
        refine (HM8.out).mono ?_
        rintro e w9 ⟨rfl, hb9⟩
        have HB9 := Lib.hid (HB8.out.trans (hb9.mono HB8.out.size))
        have Ha9 := Lib.hid (Ha8.out.below hb9)
        have Hb9 := Lib.hid (Hb8.out.below hb9)
        have He9 := Lib.hid (He8.out.below hb9)
        have Ho9 := Lib.hid (Ho8.out.below hb9)
        clear hb9
        have hm9 := match_m xa _ _ S w9 Ha9.out
        rw [HAs.out] at hm9
        have HM9 := Lib.hid hm9; clear hm9
        go_wp2_with fail
        refine (HM9.out).mono ?_
        rintro e w10 ⟨rfl, hb10⟩
        have HB10 := Lib.hid (HB9.out.trans (hb10.mono HB9.out.size))
        have Ha10 := Lib.hid (Ha9.out.below hb10)
        have Hb10 := Lib.hid (Hb9.out.below hb10)
        have He10 := Lib.hid (He9.out.below hb10)
        have Ho10 := Lib.hid (Ho9.out.below hb10)
        clear hb10
        go_wp2
        go_ret
        exact ⟨rfl, HB10.out⟩
      | false =>
        have HBs := Lib.hid hBs
        clear hBs
        go_enter Try.func5, Try.ntmps5
        go_wp2_with fail
        refine (HL.out _).mono ?_
        rintro e w1 ⟨rfl, hb1⟩
        have HB1 := Lib.hid hb1
        clear hb1
        go_wp2_with fail
        refine (HVS.out _).mono ?_
        rintro e w2 ⟨rfl, hb2⟩
        have HB2 := Lib.hid (HB1.out.trans (hb2.mono HB1.out.size))
        clear hb2
        go_wp2_with fail
        refine (HVU.out _).mono ?_
        rintro e w3 ⟨rfl, hb3⟩
        have HB3 := Lib.hid (HB2.out.trans (hb3.mono HB2.out.size))
        clear hb3
        go_wp2_with fail
        refine (HT.out _).mono ?_
        rintro e w4 ⟨xa, xb, rfl, ha4, hb4', hb4⟩
        have HB4 := Lib.hid (HB3.out.trans (hb4.mono HB3.out.size))
        clear hb4
        have Ha4 := Lib.hid ha4; have Hb4 := Lib.hid hb4'; clear ha4 hb4'
        go_wp2_with fail
        refine (HPE.out _).mono ?_
        rintro e w5 ⟨xe, rfl, -, he5, hb5⟩
        have HB5 := Lib.hid (HB4.out.trans (hb5.mono HB4.out.size))
        have Ha5 := Lib.hid (Ha4.out.below hb5)
        have Hb5 := Lib.hid (Hb4.out.below hb5)
        clear hb5
        have He5 := Lib.hid he5; clear he5
        go_wp2_with fail
        refine (HPO.out _).mono ?_
        rintro e w6 ⟨xo, rfl, -, ho6, hb6⟩
        have HB6 := Lib.hid (HB5.out.trans (hb6.mono HB5.out.size))
        have Ha6 := Lib.hid (Ha5.out.below hb6)
        have Hb6 := Lib.hid (Hb5.out.below hb6)
        have He6 := Lib.hid (He5.out.below hb6)
        clear hb6
        have Ho6 := Lib.hid ho6; clear ho6
        have hm6 := match_m xe _ _ S w6 He6.out
        rw [HME.out, HAs.out, HBs.out] at hm6
        have HM6 := Lib.hid hm6; clear hm6
        go_wp2_with fail
        refine (HM6.out).mono ?_
        rintro e w7 ⟨rfl, hb7⟩
        have HB7 := Lib.hid (HB6.out.trans (hb7.mono HB6.out.size))
        have Ha7 := Lib.hid (Ha6.out.below hb7)
        have Hb7 := Lib.hid (Hb6.out.below hb7)
        have He7 := Lib.hid (He6.out.below hb7)
        have Ho7 := Lib.hid (Ho6.out.below hb7)
        clear hb7
        have hm7 := match_m xa _ _ S w7 Ha7.out
        rw [HAs.out] at hm7
        have HM7 := Lib.hid hm7; clear hm7
        go_wp2_with fail
        refine (HM7.out).mono ?_
        rintro e w8 ⟨rfl, hb8⟩
        have HB8 := Lib.hid (HB7.out.trans (hb8.mono HB7.out.size))
        have Ha8 := Lib.hid (Ha7.out.below hb8)
        have Hb8 := Lib.hid (Hb7.out.below hb8)
        have He8 := Lib.hid (He7.out.below hb8)
        have Ho8 := Lib.hid (Ho7.out.below hb8)
        clear hb8
        have hm8 := match_m xb _ _ S w8 Hb8.out
        rw [HBs.out] at hm8
        have HM8 := Lib.hid hm8; clear hm8
        go_wp2_with fail
        refine (HM8.out).mono ?_
        rintro e w9 ⟨rfl, hb9⟩
        have HB9 := Lib.hid (HB8.out.trans (hb9.mono HB8.out.size))
        have Ha9 := Lib.hid (Ha8.out.below hb9)
        have Hb9 := Lib.hid (Hb8.out.below hb9)
        have He9 := Lib.hid (He8.out.below hb9)
        have Ho9 := Lib.hid (Ho8.out.below hb9)
        clear hb9
        have hm9 := match_m xa _ _ S w9 Ha9.out
        rw [HAs.out] at hm9
        have HM9 := Lib.hid hm9; clear hm9
        go_wp2_with fail
        refine (HM9.out).mono ?_
        rintro e w10 ⟨rfl, hb10⟩
        have HB10 := Lib.hid (HB9.out.trans (hb10.mono HB9.out.size))
        have Ha10 := Lib.hid (Ha9.out.below hb10)
        have Hb10 := Lib.hid (Hb9.out.below hb10)
        have He10 := Lib.hid (He9.out.below hb10)
        have Ho10 := Lib.hid (Ho9.out.below hb10)
        clear hb10
        go_wp2
        go_ret
        exact ⟨rfl, HB10.out⟩
theorem rexEither_walk (p q s u : ByteArray) (w : World) : Calls Try.prog 5 #[.string p, .string q, .string s, .string u] w fun e w' => e = .returned (.bool true) ∧ Below w.heap.size w w' := by
  obtain ⟨P, rfl⟩ : ∃ P, p = mkB P := ⟨bl p, (mk_bl p).symm⟩
  obtain ⟨Q, rfl⟩ : ∃ Q, q = mkB Q := ⟨bl q, (mk_bl q).symm⟩
  obtain ⟨S, rfl⟩ : ∃ S, s = mkB S := ⟨bl s, (mk_bl s).symm⟩
  obtain ⟨U, rfl⟩ : ∃ U, u = mkB U := ⟨bl u, (mk_bl u).symm⟩
  have hsP : (mkB P).size = P.length := by rw [← bl_len, bl_mk]
  by_cases hP : 256 < P.length
  · have dP : decide ((256 : Int) < ((mkB P).size : Int)) = true := by rw [hsP]; simp; omega
    have gP : (256 : Int) < ((mkB P).size : Int) := by rw [hsP]; omega
    have HL := Lib.hid (fun W => live_any W)
    clear hsP
    go_enter Try.func5, Try.ntmps5
    go_wp2_with fail
    refine (HL.out _).mono ?_
    rintro e w1 ⟨rfl, hb1⟩
    have HB1 := Lib.hid hb1; clear hb1
    go_wp2_with fail
    refine (HL.out _).mono ?_
    rintro e w2 ⟨rfl, hb2⟩
    have HB2 := Lib.hid (HB1.out.trans (hb2.mono HB1.out.size)); clear hb2
    go_wp2
    go_ret
    exact ⟨rfl, HB2.out⟩
  have dP : decide ((256 : Int) < ((mkB P).size : Int)) = false := by rw [hsP]; simp; omega
  have gP : ¬ (256 : Int) < ((mkB P).size : Int) := by rw [hsP]; omega
  have HSP := Lib.hid hsP
  clear hsP
  have hsQ : (mkB Q).size = Q.length := by rw [← bl_len, bl_mk]
  by_cases hQ : 256 < Q.length
  · have dQ : decide ((256 : Int) < ((mkB Q).size : Int)) = true := by rw [hsQ]; simp; omega
    have gQ : (256 : Int) < ((mkB Q).size : Int) := by rw [hsQ]; omega
    have HL := Lib.hid (fun W => live_any W)
    clear hsQ
    go_enter Try.func5, Try.ntmps5
    go_wp2_with fail
    refine (HL.out _).mono ?_
    rintro e w1 ⟨rfl, hb1⟩
    have HB1 := Lib.hid hb1; clear hb1
    go_wp2_with fail
    refine (HL.out _).mono ?_
    rintro e w2 ⟨rfl, hb2⟩
    have HB2 := Lib.hid (HB1.out.trans (hb2.mono HB1.out.size)); clear hb2
    go_wp2
    go_ret
    exact ⟨rfl, HB2.out⟩
  have dQ : decide ((256 : Int) < ((mkB Q).size : Int)) = false := by rw [hsQ]; simp; omega
  have gQ : ¬ (256 : Int) < ((mkB Q).size : Int) := by rw [hsQ]; omega
  have HSQ := Lib.hid hsQ
  clear hsQ
  have hsS : (mkB S).size = S.length := by rw [← bl_len, bl_mk]
  by_cases hS : 60 < S.length
  · have dS : decide ((60 : Int) < ((mkB S).size : Int)) = true := by rw [hsS]; simp; omega
    have gS : (60 : Int) < ((mkB S).size : Int) := by rw [hsS]; omega
    have HL := Lib.hid (fun W => live_any W)
    clear hsS
    go_enter Try.func5, Try.ntmps5
    go_wp2_with fail
    refine (HL.out _).mono ?_
    rintro e w1 ⟨rfl, hb1⟩
    have HB1 := Lib.hid hb1; clear hb1
    go_wp2_with fail
    refine (HL.out _).mono ?_
    rintro e w2 ⟨rfl, hb2⟩
    have HB2 := Lib.hid (HB1.out.trans (hb2.mono HB1.out.size)); clear hb2
    go_wp2
    go_ret
    exact ⟨rfl, HB2.out⟩
  have dS : decide ((60 : Int) < ((mkB S).size : Int)) = false := by rw [hsS]; simp; omega
  have gS : ¬ (60 : Int) < ((mkB S).size : Int) := by rw [hsS]; omega
  have HSS := Lib.hid hsS
  clear hsS
  have hsU : (mkB U).size = U.length := by rw [← bl_len, bl_mk]
  by_cases hU : 60 < U.length
  · have dU : decide ((60 : Int) < ((mkB U).size : Int)) = true := by rw [hsU]; simp; omega
    have gU : (60 : Int) < ((mkB U).size : Int) := by rw [hsU]; omega
    have HL := Lib.hid (fun W => live_any W)
    clear hsU
    go_enter Try.func5, Try.ntmps5
    go_wp2_with fail
    refine (HL.out _).mono ?_
    rintro e w1 ⟨rfl, hb1⟩
    have HB1 := Lib.hid hb1; clear hb1
    go_wp2_with fail
    refine (HL.out _).mono ?_
    rintro e w2 ⟨rfl, hb2⟩
    have HB2 := Lib.hid (HB1.out.trans (hb2.mono HB1.out.size)); clear hb2
    go_wp2
    go_ret
    exact ⟨rfl, HB2.out⟩
  have dU : decide ((60 : Int) < ((mkB U).size : Int)) = false := by rw [hsU]; simp; omega
  have gU : ¬ (60 : Int) < ((mkB U).size : Int) := by rw [hsU]; omega
  have HSU := Lib.hid hsU
  clear hsU
  have HVS := Lib.hid (fun W => rvalid_any (mkB S) W (by rw [HSS.out]; omega))
  cases hvS : validB (mkB S) with
  | false =>
    rw [hvS] at HVS
    have HL := Lib.hid (fun W => live_any W)
    clear hvS
    go_enter Try.func5, Try.ntmps5
    go_wp2_with fail
    refine (HL.out _).mono ?_
    rintro e w1 ⟨rfl, hb1⟩
    have HB1 := Lib.hid hb1
    clear hb1
    go_wp2_with fail
    refine (HVS.out _).mono ?_
    rintro e w2 ⟨rfl, hb2⟩
    have HB2 := Lib.hid (HB1.out.trans (hb2.mono HB1.out.size))
    clear hb2
    go_wp2_with fail
    refine (HL.out _).mono ?_
    rintro e w3 ⟨rfl, hb3⟩
    have HB3 := Lib.hid (HB2.out.trans (hb3.mono HB2.out.size))
    clear hb3
    go_wp2
    go_ret
    exact ⟨rfl, HB3.out⟩
  | true =>
  rw [hvS] at HVS
  have hdS : Lib.validD S = true := by unfold validB at hvS; rw [bl_mk] at hvS; exact hvS
  have HVU := Lib.hid (fun W => rvalid_any (mkB U) W (by rw [HSU.out]; omega))
  cases hvU : validB (mkB U) with
  | false =>
    rw [hvU] at HVU
    have HL := Lib.hid (fun W => live_any W)
    clear hvU
    go_enter Try.func5, Try.ntmps5
    go_wp2_with fail
    refine (HL.out _).mono ?_
    rintro e w1 ⟨rfl, hb1⟩
    have HB1 := Lib.hid hb1
    clear hb1
    go_wp2_with fail
    refine (HVS.out _).mono ?_
    rintro e w2 ⟨rfl, hb2⟩
    have HB2 := Lib.hid (HB1.out.trans (hb2.mono HB1.out.size))
    clear hb2
    go_wp2_with fail
    refine (HVU.out _).mono ?_
    rintro e w3 ⟨rfl, hb3⟩
    have HB3 := Lib.hid (HB2.out.trans (hb3.mono HB2.out.size))
    clear hb3
    go_wp2_with fail
    refine (HL.out _).mono ?_
    rintro e w4 ⟨rfl, hb4⟩
    have HB4 := Lib.hid (HB3.out.trans (hb4.mono HB3.out.size))
    clear hb4
    go_wp2
    go_ret
    exact ⟨rfl, HB4.out⟩
  | true =>
  rw [hvU] at HVU
  have hdU : Lib.validD U = true := by unfold validB at hvU; rw [bl_mk] at hvU; exact hvU
  exact rexEither_in P Q S U w (by omega) (by omega) (by omega) (by omega) hdS hdU HVS HVU
end

set_option maxRecDepth 100000 in
theorem rexEither_lifted (os : Os) (started : os.Started) (H : Type) (enc : TypeId × Value → H) :
    ReturnsInHanded {} Try.checked os 5 .any (Rows.rexEitherSpec.pre6 enc Try.prog Try.f5 Rows.rexEitherRow.domain false) (Rows.rexEitherSpec.post enc Try.prog Try.f5 false true false false) := by
  refine returnsInHanded_of_change (C := Try.checked) ownKn started (by kernel_rfl) Try.func5
    (ChangeSpec.witness6 (enc := enc) (C := Try.checked) false ⟨#[], #[.string ⟨#[]⟩, .string ⟨#[]⟩, .string ⟨#[]⟩, .string ⟨#[]⟩], []⟩ 8 (by kernel_rfl) (by kernel_rfl) (by kernel_rfl) (by kernel_rfl)) ?_
  intro W base args ds gs before hval0 hW hcnd _
  have hval : ∀ (j : Nat) t v, Try.f5.params[j]? = some t → args[j]? = some v → Value.okWide Try.prog W .any base t v := hval0
  have hW' := hW
  obtain ⟨p, q, hA0, hV, rfl, hfz, hnd⟩ := hW
  have hA : DataW.TrodAll enc Try.prog W 0 (fun _ => true) true Try.f5.params.toList args.toList ds p := hA0
  rw [Try.params5] at hA hval
  obtain ⟨v0, vs0, d0, ds0, p0, q0, hargs, rfl, rfl, h0, r0⟩ := trodAll_cons hA
  obtain ⟨v1, vs1, d1, ds1, p1, q1, rfl, rfl, rfl, h1, r1⟩ := trodAll_cons r0
  obtain ⟨v2, vs2, d2, ds2, p2, q2, rfl, rfl, rfl, h2, r2⟩ := trodAll_cons r1
  obtain ⟨v3, vs3, d3, ds3, p3, q3, rfl, rfl, rfl, h3, r3⟩ := trodAll_cons r2
  obtain ⟨rfl, rfl, rfl⟩ := trodAll_nil r3
  obtain rfl : args = #[v0, v1, v2, v3] := by cases args; simp_all
  obtain ⟨rfl, rfl⟩ := trodVars_none hV
  obtain ⟨s0, rfl, rfl, rfl, ws0⟩ := open_string Try.underlying9 (hval 0 9 v0 rfl rfl) h0
  obtain ⟨s1, rfl, rfl, rfl, ws1⟩ := open_string Try.underlying9 (hval 1 9 v1 rfl rfl) h1
  obtain ⟨s2, rfl, rfl, rfl, ws2⟩ := open_string Try.underlying9 (hval 2 9 v2 rfl rfl) h2
  obtain ⟨s3, rfl, rfl, rfl, ws3⟩ := open_string Try.underlying9 (hval 3 9 v3 rfl rfl) h3
  clear hA0 hval0 hA
  refine (rexEither_walk s0 s1 s2 s3 W).mono fun e W' ⟨he, hg⟩ => ?_
  subst he
  exact ⟨_, rfl, law_end laidOut (by kernel_rfl) (by kernel_rfl) Try.underlying4 rfl hW' ⟨rfl, rfl, rfl⟩ hg⟩

theorem rexEither_holds : Rows.RexEitherSaid :=
  OpenClaim.holds_of_wide 5 Try.f5 rfl rfl rfl rfl rfl rfl rfl ⟨rfl, rfl, rfl, rfl, rfl⟩ rfl rfl rfl rfl rfl (by kernel_rfl) Try.func5 (by kernel_rfl)
    (of_decide_eq_true (by kernel_rfl)) (by unfold Func.isWrapper; first | (rw [if_pos (by decide +kernel)]; kernel_rfl) | (rw [if_neg (by decide +kernel)]; exact ⟨rfl, rfl⟩))
    (fun os started H enc _ => rexEither_lifted os started H enc)
#print axioms rexEither_holds

end Go.Proofs.Ytdihaabjmlhemaa
