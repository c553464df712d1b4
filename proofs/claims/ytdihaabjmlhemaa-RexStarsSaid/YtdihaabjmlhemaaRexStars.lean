/-
  RexStars (P6.7): a group with a star matches nothing, and what it matches twice; with a plus it is that without nothing, if the group does not match it. No condition.
-/
import Derived.Test.YtdihaabjmlhemaaLaw
import Derived.Test.YtdihaabjmlhemaaRle
import Derived.ChangeMaps5
namespace Go.Proofs.Ytdihaabjmlhemaa
set_option linter.unusedVariables false
set_option linter.unusedSimpArgs false
open Go.ChangeShapes Go.WideShapes Go.ChangeAt Go.RowKit Go.ChangeMaps

section
set_option maxHeartbeats 16000000
set_option maxRecDepth 100000
theorem match_m (b : Nat) (st : ByteArray) (t : Re) (S : Bs) (w : World) (h : RexIs w b st t) : Calls Try.prog 11 #[.pointer (some ⟨b, 0, none⟩), .string (mkB S)] w fun e w' => e = .returned (.bool (mB t (runesB S))) ∧ Below w.heap.size w w' := by
  have := match_any b st t (mkB S) w h
  rw [bl_mk] at this; exact this
theorem rexStars_in (P S U : Bs) (w : World) (hP : P.length ≤ 256) (hS : S.length ≤ 60) (hU : U.length ≤ 60) (hdS : Lib.validD S = true) (hdU : Lib.validD U = true)
    (HVS : Hid (∀ W, Calls Try.prog 15 #[.string (mkB S)] W fun e w' => e = .returned (.bool true) ∧ Below W.heap.size W w')) (HVU : Hid (∀ W, Calls Try.prog 15 #[.string (mkB U)] W fun e w' => e = .returned (.bool true) ∧ Below W.heap.size W w')) :
    Calls Try.prog 6 #[.string (mkB P), .string (mkB S), .string (mkB U)] w fun e w' => e = .returned (.bool true) ∧ Below w.heap.size w w' := by
  have dP : decide ((256 : Int) < ((mkB P).size : Int)) = false := by rw [← bl_len, bl_mk]; simp; omega
  have gP : ¬ (256 : Int) < ((mkB P).size : Int) := by rw [← bl_len, bl_mk]; omega
  have dS : decide ((60 : Int) < ((mkB S).size : Int)) = false := by rw [← bl_len, bl_mk]; simp; omega
  have gS : ¬ (60 : Int) < ((mkB S).size : Int) := by rw [← bl_len, bl_mk]; omega
  have dU : decide ((60 : Int) < ((mkB U).size : Int)) = false := by rw [← bl_len, bl_mk]; simp; omega
  have gU : ¬ (60 : Int) < ((mkB U).size : Int) := by rw [← bl_len, bl_mk]; omega
  have HL := Lib.hid (fun W => live_any W)
  have HT := Lib.hid (show ∀ W, Calls Try.prog 16 #[.string (mkB P), .string ⟨#[]⟩] W (TwOut (mkB P) ⟨#[]⟩ W (twoP P [])) from fun W => two_any P [] W hP (by simp))
  have hst : ∀ u, (Op.stringOp .add (mkB S) (mkB U)).run Try.prog u = .ok (.string (mkB (S ++ U))) u := fun u => add_text u S U (by omega)
  have ha1 : ∀ u, (Op.stringOp .add ⟨#[40]⟩ (mkB P)).run Try.prog u = .ok (.string (mkB (40 :: P))) u := fun u => add_text u [40] P (by simp; omega)
  have hs2 : ∀ u, (Op.stringOp .add (mkB (40 :: P)) ⟨#[41, 42]⟩).run Try.prog u = .ok (.string (mkB (grpT P [42]))) u := fun u => add_text u (40 :: P) [41, 42] (by simp; omega)
  have hps := fun W => parse_any (mkB (grpT P [42])) W
  rw [bl_mk] at hps
  have hp2 : ∀ u, (Op.stringOp .add (mkB (40 :: P)) ⟨#[41, 43]⟩).run Try.prog u = .ok (.string (mkB (grpT P [43]))) u := fun u => add_text u (40 :: P) [41, 43] (by simp; omega)
  have hpp := fun W => parse_any (mkB (grpT P [43])) W
  rw [bl_mk] at hpp
  have hm2 : ∀ u, (Op.stringOp .add (mkB (40 :: P)) ⟨#[41, 63]⟩).run Try.prog u = .ok (.string (mkB (grpT P [63]))) u := fun u => add_text u (40 :: P) [41, 63] (by simp; omega)
  have hpm := fun W => parse_any (mkB (grpT P [63])) W
  rw [bl_mk] at hpm
  obtain ⟨TW, hTW⟩ : ∃ TW, twoP P [] = TW := ⟨_, rfl⟩
  rw [hTW] at HT
  have hpe2 : ∀ a b, TW = some (a, b) → rxP (grpT P [42]) = .ok (.cat .none (.star a)) ∧ rxP (grpT P [43]) = .ok (.cat .none (.plus a)) ∧ rxP (grpT P [63]) = .ok (.cat .none (.may a)) := fun a b e => by
    rw [← hTW] at e
    obtain ⟨_, _, hl, fa, fb⟩ := two_fits e
    exact ⟨rx_of (times_is fa (by decide) rfl) (by simp [grpT] at *; omega), rx_of (times_is fa (by decide) rfl) (by simp [grpT] at *; omega), rx_of (times_is fa (by decide) rfl) (by simp [grpT] at *; omega)⟩
  have HP2 := Lib.hid hpe2
  have HRU := Lib.hid (runes_app (s := S) (t := U) hdS)
  have hemp := runes_empty (mkB S)
  rw [bl_mk] at hemp
  have HEMP := Lib.hid hemp
  obtain ⟨Gs, hGs⟩ : ∃ G, grpT P [42] = G := ⟨_, rfl⟩
  rw [hGs] at hs2 hps HP2
  have HPs := Lib.hid hps
  clear hGs hps
  obtain ⟨Gp, hGp⟩ : ∃ G, grpT P [43] = G := ⟨_, rfl⟩
  rw [hGp] at hp2 hpp HP2
  have HPp := Lib.hid hpp
  clear hGp hpp
  obtain ⟨Gm, hGm⟩ : ∃ G, grpT P [63] = G := ⟨_, rfl⟩
  rw [hGm] at hm2 hpm HP2
  have HPm := Lib.hid hpm
  clear hGm hpm
  obtain ⟨L1, hL1⟩ : ∃ L1, 40 :: P = L1 := ⟨_, rfl⟩
  rw [hL1] at ha1 hs2 hp2 hm2
  obtain ⟨SU, hSU⟩ : ∃ SU, S ++ U = SU := ⟨_, rfl⟩
  rw [hSU] at hst HRU
  clear hL1 hSU hTW hpe2 hP hS hU hdS hdU hemp
  cases TW with
  | none =>
    go_enter Try.func6, Try.ntmps6
    go_wp2_with fail
    refine (HL.out _).mono ?_
    rintro e w1 ⟨rfl, hb1⟩
    have HB1 := Lib.hid hb1
    clear hb1
    go_wp2_with fail
    refine (HVS.out _).mono ?_
    rintro e w2 ⟨rfl, hb2⟩
    have HB2 := Lib.hid (HB1.out.trans (hb2.mono HB1.out.size))
    clear hb2
    go_wp2_with fail
    refine (HVU.out _).mono ?_
    rintro e w3 ⟨rfl, hb3⟩
    have HB3 := Lib.hid (HB2.out.trans (hb3.mono HB2.out.size))
    clear hb3
    go_wp2_with fail
    refine (HT.out _).mono ?_
    rintro e w4 ⟨rfl, hb4⟩
    have HB4 := Lib.hid (HB3.out.trans (hb4.mono HB3.out.size))
    clear hb4
    go_wp2
    go_ret
    exact ⟨rfl, HB4.out⟩
  | some ab =>
    obtain ⟨ta, tb⟩ := ab
    obtain ⟨he1, he2, he3⟩ := HP2.out ta tb rfl
    rw [he1] at HPs
    rw [he2] at HPp
    rw [he3] at HPm
    clear he1 he2 he3 HP2
    have HN0 := Lib.hid (mB_plus_nil ta)
    have HMS := Lib.hid (mB_star ta (runesB S))
    have HMM := Lib.hid (mB_may ta (runesB S))
    have HSU := Lib.hid (fun h k => mB_star_two (a := ta) (u := runesB S) (v := runesB U) h k)
    rw [← HRU.out] at HSU
    have HONE := Lib.hid (fun h => mB_star_one (a := ta) (w := runesB S) h)
    rw [HEMP.out] at HMS HMM
    obtain ⟨a0, ha0⟩ : ∃ a0, mB ta [] = a0 := ⟨_, rfl⟩
    have HA0 := Lib.hid ha0
    clear ha0
    cases hE : ((mkB S).toList == []) with
    | true =>
      have HE := Lib.hid hE
      clear hE
      have hee := HE.out
      cases hAs : mB ta (runesB S) with
      | true =>
        have HAs := Lib.hid hAs
        clear hAs
        have HSV := Lib.hid (show mB (.star ta) (runesB S) = true by rw [HMS.out, HE.out, Bool.true_or])
        cases hSt : mB (.star ta) (runesB U) with
        | true =>
          have HSt := Lib.hid hSt
          clear hSt
          go_enter Try.func6, Try.ntmps6
          go_wp2_with fail
          refine (HL.out _).mono ?_
          rintro e w1 ⟨rfl, hb1⟩
          have HB1 := Lib.hid hb1
          clear hb1
          go_wp2_with fail
          refine (HVS.out _).mono ?_
          rintro e w2 ⟨rfl, hb2⟩
          have HB2 := Lib.hid (HB1.out.trans (hb2.mono HB1.out.size))
          clear hb2
          go_wp2_with fail
          refine (HVU.out _).mono ?_
          rintro e w3 ⟨rfl, hb3⟩
          have HB3 := Lib.hid (HB2.out.trans (hb3.mono HB2.out.size))
          clear hb3
          go_wp2_with fail
          refine (HT.out _).mono ?_
          rintro e w4 ⟨xa, xb, rfl, ha4, -, hb4⟩
          have HB4 := Lib.hid (HB3.out.trans (hb4.mono HB3.out.size))
          clear hb4
          have Ha4 := Lib.hid ha4; clear ha4
          go_wp2_with fail
          refine (HPs.out _).mono ?_
          rintro e w5 ⟨xs, rfl, -, hx5, hb5⟩
          have HB5 := Lib.hid (HB4.out.trans (hb5.mono HB4.out.size))
          have Ha5 := Lib.hid (Ha4.out.below hb5)
          clear hb5
          have Hs5 := Lib.hid hx5; clear hx5
          go_wp2_with fail
          refine (HPp.out _).mono ?_
          rintro e w6 ⟨xp, rfl, -, hx6, hb6⟩
          have HB6 := Lib.hid (HB5.out.trans (hb6.mono HB5.out.size))
          have Ha6 := Lib.hid (Ha5.out.below hb6)
          have Hs6 := Lib.hid (Hs5.out.below hb6)
          clear hb6
          have Hp6 := Lib.hid hx6; clear hx6
          go_wp2_with fail
          refine (HPm.out _).mono ?_
          rintro e w7 ⟨xm, rfl, -, hx7, hb7⟩
          have HB7 := Lib.hid (HB6.out.trans (hb7.mono HB6.out.size))
          have Ha7 := Lib.hid (Ha6.out.below hb7)
          have Hs7 := Lib.hid (Hs6.out.below hb7)
          have Hp7 := Lib.hid (Hp6.out.below hb7)
          clear hb7
          have Hm7 := Lib.hid hx7; clear hx7
          have hm7 := match_m xs _ _ [] w7 Hs7.out
          rw [runesB_nil, mB_times, mB_star_nil] at hm7
          have HM7 := Lib.hid hm7; clear hm7
          go_wp2_with fail
          refine (HM7.out).mono ?_
          rintro e w8 ⟨rfl, hb8⟩
          have HB8 := Lib.hid (HB7.out.trans (hb8.mono HB7.out.size))
          have Ha8 := Lib.hid (Ha7.out.below hb8)
          have Hs8 := Lib.hid (Hs7.out.below hb8)
          have Hp8 := Lib.hid (Hp7.out.below hb8)
          have Hm8 := Lib.hid (Hm7.out.below hb8)
          clear hb8
          have hm8 := match_m xp _ _ [] w8 Hp8.out
          rw [runesB_nil, mB_times, HN0.out, HA0.out] at hm8
          have HM8 := Lib.hid hm8; clear hm8
          go_wp2_with fail
          refine (HM8.out).mono ?_
          rintro e w9 ⟨rfl, hb9⟩
          have HB9 := Lib.hid (HB8.out.trans (hb9.mono HB8.out.size))
          have Ha9 := Lib.hid (Ha8.out.below hb9)
          have Hs9 := Lib.hid (Hs8.out.below hb9)
          have Hp9 := Lib.hid (Hp8.out.below hb9)
          have Hm9 := Lib.hid (Hm8.out.below hb9)
          clear hb9
          have hm9 := match_m xa _ _ [] w9 Ha9.out
          rw [runesB_nil, HA0.out] at hm9
          have HM9 := Lib.hid hm9; clear hm9
          go_wp2_with fail
          refine (HM9.out).mono ?_
          rintro e w10 ⟨rfl, hb10⟩
          have HB10 := Lib.hid (HB9.out.trans (hb10.mono HB9.out.size))
          have Ha10 := Lib.hid (Ha9.out.below hb10)
          have Hs10 := Lib.hid (Hs9.out.below hb10)
          have Hp10 := Lib.hid (Hp9.out.below hb10)
          have Hm10 := Lib.hid (Hm9.out.below hb10)
          clear hb10
          have hm10 := match_m xm _ _ S w10 Hm10.out
          rw [mB_times, HMM.out, HE.out, Bool.true_or] at hm10
          have HM10 := Lib.hid hm10; clear hm10
          go_wp2_with fail
          refine (HM10.out).mono ?_
          rintro e w11 ⟨rfl, hb11⟩
          have HB11 := Lib.hid (HB10.out.trans (hb11.mono HB10.out.size))
          have Ha11 := Lib.hid (Ha10.out.below hb11)
          have Hs11 := Lib.hid (Hs10.out.below hb11)
          have Hp11 := Lib.hid (Hp10.out.below hb11)
          have Hm11 := Lib.hid (Hm10.out.below hb11)
          clear hb11
          have hm11 := match_m xs _ _ S w11 Hs11.out
          rw [mB_times, HSV.out] at hm11
          have HM11 := Lib.hid hm11; clear hm11
          go_wp2_with fail
          refine (HM11.out).mono ?_
          rintro e w12 ⟨rfl, hb12⟩
          have HB12 := Lib.hid (HB11.out.trans (hb12.mono HB11.out.size))
          have Ha12 := Lib.hid (Ha11.out.below hb12)
          have Hs12 := Lib.hid (Hs11.out.below hb12)
          have Hp12 := Lib.hid (Hp11.out.below hb12)
          have Hm12 := Lib.hid (Hm11.out.below hb12)
          clear hb12
          have hm12 := match_m xa _ _ S w12 Ha12.out
          rw [HAs.out] at hm12
          have HM12 := Lib.hid hm12; clear hm12
          go_wp2_with fail
          refine (HM12.out).mono ?_
          rintro e w13 ⟨rfl, hb13⟩
          have HB13 := Lib.hid (HB12.out.trans (hb13.mono HB12.out.size))
          have Ha13 := Lib.hid (Ha12.out.below hb13)
          have Hs13 := Lib.hid (Hs12.out.below hb13)
          have Hp13 := Lib.hid (Hp12.out.below hb13)
          have Hm13 := Lib.hid (Hm12.out.below hb13)
          clear hb13
          have hm13 := match_m xs _ _ S w13 Hs13.out
          rw [mB_times, HSV.out] at hm13
          have HM13 := Lib.hid hm13; clear hm13
          go_wp2_with fail
          refine (HM13.out).mono ?_
          rintro e w14 ⟨rfl, hb14⟩
          have HB14 := Lib.hid (HB13.out.trans (hb14.mono HB13.out.size))
          have Ha14 := Lib.hid (Ha13.out.below hb14)
          have Hs14 := Lib.hid (Hs13.out.below hb14)
          have Hp14 := Lib.hid (Hp13.out.below hb14)
          have Hm14 := Lib.hid (Hm13.out.below hb14)
          clear hb14
          have hm14 := match_m xs _ _ S w14 Hs14.out
          rw [mB_times, HSV.out] at hm14
          have HM14 := Lib.hid hm14; clear hm14
          go_wp2_with fail
          refine (HM14.out).mono ?_
          rintro e w15 ⟨rfl, hb15⟩
          have HB15 := Lib.hid (HB14.out.trans (hb15.mono HB14.out.size))
          have Ha15 := Lib.hid (Ha14.out.below hb15)
          have Hs15 := Lib.hid (Hs14.out.below hb15)
          have Hp15 := Lib.hid (Hp14.out.below hb15)
          have Hm15 := Lib.hid (Hm14.out.below hb15)
          clear hb15
          have hm15 := match_m xs _ _ U w15 Hs15.out
          rw [mB_times, HSt.out] at hm15
          have HM15 := Lib.hid hm15; clear hm15
          go_wp2_with fail
          refine (HM15.out).mono ?_
          rintro e w16 ⟨rfl, hb16⟩
          have HB16 := Lib.hid (HB15.out.trans (hb16.mono HB15.out.size))
          have Ha16 := Lib.hid (Ha15.out.below hb16)
          have Hs16 := Lib.hid (Hs15.out.below hb16)
          have Hp16 := Lib.hid (Hp15.out.below hb16)
          have Hm16 := Lib.hid (Hm15.out.below hb16)
          clear hb16
          have hm16 := match_m xs _ _ SU w16 Hs16.out
          rw [mB_times, HSU.out HSV.out HSt.out] at hm16
          have HM16 := Lib.hid hm16; clear hm16
          go_wp2_with fail
          refine (HM16.out).mono ?_
          rintro e w17 ⟨rfl, hb17⟩
          have HB17 := Lib.hid (HB16.out.trans (hb17.mono HB16.out.size))
          have Ha17 := Lib.hid (Ha16.out.below hb17)
          have Hs17 := Lib.hid (Hs16.out.below hb17)
          have Hp17 := Lib.hid (Hp16.out.below hb17)
          have Hm17 := Lib.hid (Hm16.out.below hb17)
          clear hb17
          go_wp2
          go_ret
          exact ⟨rfl, HB17.out⟩
        | false =>
          have HSt := Lib.hid hSt
          clear hSt
          go_enter Try.func6, Try.ntmps6
          go_wp2_with fail
          refine (HL.out _).mono ?_
          rintro e w1 ⟨rfl, hb1⟩
          have HB1 := Lib.hid hb1
          clear hb1
          go_wp2_with fail
          refine (HVS.out _).mono ?_
          rintro e w2 ⟨rfl, hb2⟩
          have HB2 := Lib.hid (HB1.out.trans (hb2.mono HB1.out.size))
          clear hb2
          go_wp2_with fail
          refine (HVU.out _).mono ?_
          rintro e w3 ⟨rfl, hb3⟩
          have HB3 := Lib.hid (HB2.out.trans (hb3.mono HB2.out.size))
          clear hb3
          go_wp2_with fail
          refine (HT.out _).mono ?_
          rintro e w4 ⟨xa, xb, rfl, ha4, -, hb4⟩
          have HB4 := Lib.hid (HB3.out.trans (hb4.mono HB3.out.size))
          clear hb4
          have Ha4 := Lib.hid ha4; clear ha4
          go_wp2_with fail
          refine (HPs.out _).mono ?_
          rintro e w5 ⟨xs, rfl, -, hx5, hb5⟩
          have HB5 := Lib.hid (HB4.out.trans (hb5.mono HB4.out.size))
          have Ha5 := Lib.hid (Ha4.out.below hb5)
          clear hb5
          have Hs5 := Lib.hid hx5; clear hx5
          go_wp2_with fail
          refine (HPp.out _).mono ?_
          rintro e w6 ⟨xp, rfl, -, hx6, hb6⟩
          have HB6 := Lib.hid (HB5.out.trans (hb6.mono HB5.out.size))
          have Ha6 := Lib.hid (Ha5.out.below hb6)
          have Hs6 := Lib.hid (Hs5.out.below hb6)
          clear hb6
          have Hp6 := Lib.hid hx6; clear hx6
          go_wp2_with fail
          refine (HPm.out _).mono ?_
          rintro e w7 ⟨xm, rfl, -, hx7, hb7⟩
          have HB7 := Lib.hid (HB6.out.trans (hb7.mono HB6.out.size))
          have Ha7 := Lib.hid (Ha6.out.below hb7)
          have Hs7 := Lib.hid (Hs6.out.below hb7)
          have Hp7 := Lib.hid (Hp6.out.below hb7)
          clear hb7
          have Hm7 := Lib.hid hx7; clear hx7
          have hm7 := match_m xs _ _ [] w7 Hs7.out
          rw [runesB_nil, mB_times, mB_star_nil] at hm7
          have HM7 := Lib.hid hm7; clear hm7
          go_wp2_with fail
          refine (HM7.out).mono ?_
          rintro e w8 ⟨rfl, hb8⟩
          have HB8 := Lib.hid (HB7.out.trans (hb8.mono HB7.out.size))
          have Ha8 := Lib.hid (Ha7.out.below hb8)
          have Hs8 := Lib.hid (Hs7.out.below hb8)
          have Hp8 := Lib.hid (Hp7.out.below hb8)
          have Hm8 := Lib.hid (Hm7.out.below hb8)
          clear hb8
          have hm8 := match_m xp _ _ [] w8 Hp8.out
          rw [runesB_nil, mB_times, HN0.out, HA0.out] at hm8
          have HM8 := Lib.hid hm8; clear hm8
          go_wp2_with fail
          refine (HM8.out).mono ?_
          rintro e w9 ⟨rfl, hb9⟩
          have HB9 := Lib.hid (HB8.out.trans (hb9.mono HB8.out.size))
          have Ha9 := Lib.hid (Ha8.out.below hb9)
          have Hs9 := Lib.hid (Hs8.out.below hb9)
          have Hp9 := Lib.hid (Hp8.out.below hb9)
          have Hm9 := Lib.hid (Hm8.out.below hb9)
          clear hb9
          have hm9 := match_m xa _ _ [] w9 Ha9.out
          rw [runesB_nil, HA0.out] at hm9
          have HM9 := Lib.hid hm9; clear hm9
          go_wp2_with fail
          refine (HM9.out).mono ?_
          rintro e w10 ⟨rfl, hb10⟩
          have HB10 := Lib.hid (HB9.out.trans (hb10.mono HB9.out.size))
          have Ha10 := Lib.hid (Ha9.out.below hb10)
          have Hs10 := Lib.hid (Hs9.out.below hb10)
          have Hp10 := Lib.hid (Hp9.out.below hb10)
          have Hm10 := Lib.hid (Hm9.out.below hb10)
          clear hb10
          have hm10 := match_m xm _ _ S w10 Hm10.out
          rw [mB_times, HMM.out, HE.out, Bool.true_or] at hm10
          have HM10 := Lib.hid hm10; clear hm10
          go_wp2_with fail
          refine (HM10.out).mono ?_
          rintro e w11 ⟨rfl, hb11⟩
          have HB11 := Lib.hid (HB10.out.trans (hb11.mono HB10.out.size))
          have Ha11 := Lib.hid (Ha10.out.below hb11)
          have Hs11 := Lib.hid (Hs10.out.below hb11)
          have Hp11 := Lib.hid (Hp10.out.below hb11)
          have Hm11 := Lib.hid (Hm10.out.below hb11)
          clear hb11
          have hm11 := match_m xs _ _ S w11 Hs11.out
          rw [mB_times, HSV.out] at hm11
          have HM11 := Lib.hid hm11; clear hm11
          go_wp2_with fail
          refine (HM11.out).mono ?_
          rintro e w12 ⟨rfl, hb12⟩
          have HB12 := Lib.hid (HB11.out.trans (hb12.mono HB11.out.size))
          have Ha12 := Lib.hid (Ha11.out.below hb12)
          have Hs12 := Lib.hid (Hs11.out.below hb12)
          have Hp12 := Lib.hid (Hp11.out.below hb12)
          have Hm12 := Lib.hid (Hm11.out.below hb12)
          clear hb12
          have hm12 := match_m xa _ _ S w12 Ha12.out
          rw [HAs.out] at hm12
          have HM12 := Lib.hid hm12; clear hm12
          go_wp2_with fail
          refine (HM12.out).mono ?_
          rintro e w13 ⟨rfl, hb13⟩
          have HB13 := Lib.hid (HB12.out.trans (hb13.mono HB12.out.size))
          have Ha13 := Lib.hid (Ha12.out.below hb13)
          have Hs13 := Lib.hid (Hs12.out.below hb13)
          have Hp13 := Lib.hid (Hp12.out.below hb13)
          have Hm13 := Lib.hid (Hm12.out.below hb13)
          clear hb13
          have hm13 := match_m xs _ _ S w13 Hs13.out
          rw [mB_times, HSV.out] at hm13
          have HM13 := Lib.hid hm13; clear hm13
          go_wp2_with fail
          refine (HM13.out).mono ?_
          rintro e w14 ⟨rfl, hb14⟩
          have HB14 := Lib.hid (HB13.out.trans (hb14.mono HB13.out.size))
          have Ha14 := Lib.hid (Ha13.out.below hb14)
          have Hs14 := Lib.hid (Hs13.out.below hb14)
          have Hp14 := Lib.hid (Hp13.out.below hb14)
          have Hm14 := Lib.hid (Hm13.out.below hb14)
          clear hb14
          have hm14 := match_m xs _ _ S w14 Hs14.out
          rw [mB_times, HSV.out] at hm14
          have HM14 := Lib.hid hm14; clear hm14
          go_wp2_with fail
          refine (HM14.out).mono ?_
          rintro e w15 ⟨rfl, hb15⟩
          have HB15 := Lib.hid (HB14.out.trans (hb15.mono HB14.out.size))
          have Ha15 := Lib.hid (Ha14.out.below hb15)
          have Hs15 := Lib.hid (Hs14.out.below hb15)
          have Hp15 := Lib.hid (Hp14.out.below hb15)
          have Hm15 := Lib.hid (Hm14.out.below hb15)
          clear hb15
          have hm15 := match_m xs _ _ U w15 Hs15.out
          rw [mB_times, HSt.out] at hm15
          have HM15 := Lib.hid hm15; clear hm15
          go_wp2_with fail
          refine (HM15.out).mono ?_
          rintro e w16 ⟨rfl, hb16⟩
          have HB16 := Lib.hid (HB15.out.trans (hb16.mono HB15.out.size))
          have Ha16 := Lib.hid (Ha15.out.below hb16)
          have Hs16 := Lib.hid (Hs15.out.below hb16)
          have Hp16 := Lib.hid (Hp15.out.below hb16)
          have Hm16 := Lib.hid (Hm15.out.below hb16)
          clear hb16
          go_wp2
          go_ret
          exact ⟨rfl, HB16.out⟩
      | false =>
        have HAs := Lib.hid hAs
        clear hAs
        have HSV := Lib.hid (show mB (.star ta) (runesB S) = true by rw [HMS.out, HE.out, Bool.true_or])
        cases hSt : mB (.star ta) (runesB U) with
        | true =>
          have HSt := Lib.hid hSt
          clear hSt
          go_enter Try.func6, Try.ntmps6
          go_wp2_with fail
          refine (HL.out _).mono ?_
          rintro e w1 ⟨rfl, hb1⟩
          have HB1 := Lib.hid hb1
          clear hb1
          go_wp2_with fail
          refine (HVS.out _).mono ?_
          rintro e w2 ⟨rfl, hb2⟩
          have HB2 := Lib.hid (HB1.out.trans (hb2.mono HB1.out.size))
          clear hb2
          go_wp2_with fail
          refine (HVU.out _).mono ?_
          rintro e w3 ⟨rfl, hb3⟩
          have HB3 := Lib.hid (HB2.out.trans (hb3.mono HB2.out.size))
          clear hb3
          go_wp2_with fail
          refine (HT.out _).mono ?_
          rintro e w4 ⟨xa, xb, rfl, ha4, -, hb4⟩
          have HB4 := Lib.hid (HB3.out.trans (hb4.mono HB3.out.size))
          clear hb4
          have Ha4 := Lib.hid ha4; clear ha4
          go_wp2_with fail
          refine (HPs.out _).mono ?_
          rintro e w5 ⟨xs, rfl, -, hx5, hb5⟩
          have HB5 := Lib.hid (HB4.out.trans (hb5.mono HB4.out.size))
          have Ha5 := Lib.hid (Ha4.out.below hb5)
          clear hb5
          have Hs5 := Lib.hid hx5; clear hx5
          go_wp2_with fail
          refine (HPp.out _).mono ?_
          rintro e w6 ⟨xp, rfl, -, hx6, hb6⟩
          have HB6 := Lib.hid (HB5.out.trans (hb6.mono HB5.out.size))
          have Ha6 := Lib.hid (Ha5.out.below hb6)
          have Hs6 := Lib.hid (Hs5.out.below hb6)
          clear hb6
          have Hp6 := Lib.hid hx6; clear hx6
          go_wp2_with fail
          refine (HPm.out _).mono ?_
          rintro e w7 ⟨xm, rfl, -, hx7, hb7⟩
          have HB7 := Lib.hid (HB6.out.trans (hb7.mono HB6.out.size))
          have Ha7 := Lib.hid (Ha6.out.below hb7)
          have Hs7 := Lib.hid (Hs6.out.below hb7)
          have Hp7 := Lib.hid (Hp6.out.below hb7)
          clear hb7
          have Hm7 := Lib.hid hx7; clear hx7
          have hm7 := match_m xs _ _ [] w7 Hs7.out
          rw [runesB_nil, mB_times, mB_star_nil] at hm7
          have HM7 := Lib.hid hm7; clear hm7
          go_wp2_with fail
          refine (HM7.out).mono ?_
          rintro e w8 ⟨rfl, hb8⟩
          have HB8 := Lib.hid (HB7.out.trans (hb8.mono HB7.out.size))
          have Ha8 := Lib.hid (Ha7.out.below hb8)
          have Hs8 := Lib.hid (Hs7.out.below hb8)
          have Hp8 := Lib.hid (Hp7.out.below hb8)
          have Hm8 := Lib.hid (Hm7.out.below hb8)
          clear hb8
          have hm8 := match_m xp _ _ [] w8 Hp8.out
          rw [runesB_nil, mB_times, HN0.out, HA0.out] at hm8
          have HM8 := Lib.hid hm8; clear hm8
          go_wp2_with fail
          refine (HM8.out).mono ?_
          rintro e w9 ⟨rfl, hb9⟩
          have HB9 := Lib.hid (HB8.out.trans (hb9.mono HB8.out.size))
          have Ha9 := Lib.hid (Ha8.out.below hb9)
          have Hs9 := Lib.hid (Hs8.out.below hb9)
          have Hp9 := Lib.hid (Hp8.out.below hb9)
          have Hm9 := Lib.hid (Hm8.out.below hb9)
          clear hb9
          have hm9 := match_m xa _ _ [] w9 Ha9.out
          rw [runesB_nil, HA0.out] at hm9
          have HM9 := Lib.hid hm9; clear hm9
          go_wp2_with fail
          refine (HM9.out).mono ?_
          rintro e w10 ⟨rfl, hb10⟩
          have HB10 := Lib.hid (HB9.out.trans (hb10.mono HB9.out.size))
          have Ha10 := Lib.hid (Ha9.out.below hb10)
          have Hs10 := Lib.hid (Hs9.out.below hb10)
          have Hp10 := Lib.hid (Hp9.out.below hb10)
          have Hm10 := Lib.hid (Hm9.out.below hb10)
          clear hb10
          have hm10 := match_m xm _ _ S w10 Hm10.out
          rw [mB_times, HMM.out, HE.out, Bool.true_or] at hm10
          have HM10 := Lib.hid hm10; clear hm10
          go_wp2_with fail
          refine (HM10.out).mono ?_
          rintro e w11 ⟨rfl, hb11⟩
          have HB11 := Lib.hid (HB10.out.trans (hb11.mono HB10.out.size))
          have Ha11 := Lib.hid (Ha10.out.below hb11)
          have Hs11 := Lib.hid (Hs10.out.below hb11)
          have Hp11 := Lib.hid (Hp10.out.below hb11)
          have Hm11 := Lib.hid (Hm10.out.below hb11)
          clear hb11
          have hm11 := match_m xs _ _ S w11 Hs11.out
          rw [mB_times, HSV.out] at hm11
          have HM11 := Lib.hid hm11; clear hm11
          go_wp2_with fail
          refine (HM11.out).mono ?_
          rintro e w12 ⟨rfl, hb12⟩
          have HB12 := Lib.hid (HB11.out.trans (hb12.mono HB11.out.size))
          have Ha12 := Lib.hid (Ha11.out.below hb12)
          have Hs12 := Lib.hid (Hs11.out.below hb12)
          have Hp12 := Lib.hid (Hp11.out.below hb12)
          have Hm12 := Lib.hid (Hm11.out.below hb12)
          clear hb12
          have hm12 := match_m xa _ _ S w12 Ha12.out
          rw [HAs.out] at hm12
          have HM12 := Lib.hid hm12; clear hm12
          go_wp2_with fail
          refine (HM12.out).mono ?_
          rintro e w13 ⟨rfl, hb13⟩
          have HB13 := Lib.hid (HB12.out.trans (hb13.mono HB12.out.size))
          have Ha13 := Lib.hid (Ha12.out.below hb13)
          have Hs13 := Lib.hid (Hs12.out.below hb13)
          have Hp13 := Lib.hid (Hp12.out.below hb13)
          have Hm13 := Lib.hid (Hm12.out.below hb13)
          clear hb13
          have hm13 := match_m xs _ _ S w13 Hs13.out
          rw [mB_times, HSV.out] at hm13
          have HM13 := Lib.hid hm13; clear hm13
          go_wp2_with fail
          refine (HM13.out).mono ?_
          rintro e w14 ⟨rfl, hb14⟩
          have HB14 := Lib.hid (HB13.out.trans (hb14.mono HB13.out.size))
          have Ha14 := Lib.hid (Ha13.out.below hb14)
          have Hs14 := Lib.hid (Hs13.out.below hb14)
          have Hp14 := Lib.hid (Hp13.out.below hb14)
          have Hm14 := Lib.hid (Hm13.out.below hb14)
          clear hb14
          have hm14 := match_m xs _ _ U w14 Hs14.out
          rw [mB_times, HSt.out] at hm14
          have HM14 := Lib.hid hm14; clear hm14
          go_wp2_with fail
          refine (HM14.out).mono ?_
          rintro e w15 ⟨rfl, hb15⟩
          have HB15 := Lib.hid (HB14.out.trans (hb15.mono HB14.out.size))
          have Ha15 := Lib.hid (Ha14.out.below hb15)
          have Hs15 := Lib.hid (Hs14.out.below hb15)
          have Hp15 := Lib.hid (Hp14.out.below hb15)
          have Hm15 := Lib.hid (Hm14.out.below hb15)
          clear hb15
          have hm15 := match_m xs _ _ SU w15 Hs15.out
          rw [mB_times, HSU.out HSV.out HSt.out] at hm15
          have HM15 := Lib.hid hm15; clear hm15
          go_wp2_with fail
          refine (HM15.out).mono ?_
          rintro e w16 ⟨rfl, hb16⟩
          have HB16 := Lib.hid (HB15.out.trans (hb16.mono HB15.out.size))
          have Ha16 := Lib.hid (Ha15.out.below hb16)
          have Hs16 := Lib.hid (Hs15.out.below hb16)
          have Hp16 := Lib.hid (Hp15.out.below hb16)
          have Hm16 := Lib.hid (Hm15.out.below hb16)
          clear hb16
          go_wp2
          go_ret
          exact ⟨rfl, HB16.out⟩
        | false =>
          have HSt := Lib.hid hSt
          clear hSt
          go_enter Try.func6, Try.ntmps6
          go_wp2_with fail
          refine (HL.out _).mono ?_
          rintro e w1 ⟨rfl, hb1⟩
          have HB1 := Lib.hid hb1
          clear hb1
          go_wp2_with fail
          refine (HVS.out _).mono ?_
          rintro e w2 ⟨rfl, hb2⟩
          have HB2 := Lib.hid (HB1.out.trans (hb2.mono HB1.out.size))
          clear hb2
          go_wp2_with fail
          refine (HVU.out _).mono ?_
          rintro e w3 ⟨rfl, hb3⟩
          have HB3 := Lib.hid (HB2.out.trans (hb3.mono HB2.out.size))
          clear hb3
          go_wp2_with fail
          refine (HT.out _).mono ?_
          rintro e w4 ⟨xa, xb, rfl, ha4, -, hb4⟩
          have HB4 := Lib.hid (HB3.out.trans (hb4.mono HB3.out.size))
          clear hb4
          have Ha4 := Lib.hid ha4; clear ha4
          go_wp2_with fail
          refine (HPs.out _).mono ?_
          rintro e w5 ⟨xs, rfl, -, hx5, hb5⟩
          have HB5 := Lib.hid (HB4.out.trans (hb5.mono HB4.out.size))
          have Ha5 := Lib.hid (Ha4.out.below hb5)
          clear hb5
          have Hs5 := Lib.hid hx5; clear hx5
          go_wp2_with fail
          refine (HPp.out _).mono ?_
          rintro e w6 ⟨xp, rfl, -, hx6, hb6⟩
          have HB6 := Lib.hid (HB5.out.trans (hb6.mono HB5.out.size))
          have Ha6 := Lib.hid (Ha5.out.below hb6)
          have Hs6 := Lib.hid (Hs5.out.below hb6)
          clear hb6
          have Hp6 := Lib.hid hx6; clear hx6
          go_wp2_with fail
          refine (HPm.out _).mono ?_
          rintro e w7 ⟨xm, rfl, -, hx7, hb7⟩
          have HB7 := Lib.hid (HB6.out.trans (hb7.mono HB6.out.size))
          have Ha7 := Lib.hid (Ha6.out.below hb7)
          have Hs7 := Lib.hid (Hs6.out.below hb7)
          have Hp7 := Lib.hid (Hp6.out.below hb7)
          clear hb7
          have Hm7 := Lib.hid hx7; clear hx7
          have hm7 := match_m xs _ _ [] w7 Hs7.out
          rw [runesB_nil, mB_times, mB_star_nil] at hm7
          have HM7 := Lib.hid hm7; clear hm7
          go_wp2_with fail
          refine (HM7.out).mono ?_
          rintro e w8 ⟨rfl, hb8⟩
          have HB8 := Lib.hid (HB7.out.trans (hb8.mono HB7.out.size))
          have Ha8 := Lib.hid (Ha7.out.below hb8)
          have Hs8 := Lib.hid (Hs7.out.below hb8)
          have Hp8 := Lib.hid (Hp7.out.below hb8)
          have Hm8 := Lib.hid (Hm7.out.below hb8)
          clear hb8
          have hm8 := match_m xp _ _ [] w8 Hp8.out
          rw [runesB_nil, mB_times, HN0.out, HA0.out] at hm8
          have HM8 := Lib.hid hm8; clear hm8
          go_wp2_with fail
          refine (HM8.out).mono ?_
          rintro e w9 ⟨rfl, hb9⟩
          have HB9 := Lib.hid (HB8.out.trans (hb9.mono HB8.out.size))
          have Ha9 := Lib.hid (Ha8.out.below hb9)
          have Hs9 := Lib.hid (Hs8.out.below hb9)
          have Hp9 := Lib.hid (Hp8.out.below hb9)
          have Hm9 := Lib.hid (Hm8.out.below hb9)
          clear hb9
          have hm9 := match_m xa _ _ [] w9 Ha9.out
          rw [runesB_nil, HA0.out] at hm9
          have HM9 := Lib.hid hm9; clear hm9
          go_wp2_with fail
          refine (HM9.out).mono ?_
          rintro e w10 ⟨rfl, hb10⟩
          have HB10 := Lib.hid (HB9.out.trans (hb10.mono HB9.out.size))
          have Ha10 := Lib.hid (Ha9.out.below hb10)
          have Hs10 := Lib.hid (Hs9.out.below hb10)
          have Hp10 := Lib.hid (Hp9.out.below hb10)
          have Hm10 := Lib.hid (Hm9.out.below hb10)
          clear hb10
          have hm10 := match_m xm _ _ S w10 Hm10.out
          rw [mB_times, HMM.out, HE.out, Bool.true_or] at hm10
          have HM10 := Lib.hid hm10; clear hm10
          go_wp2_with fail
          refine (HM10.out).mono ?_
          rintro e w11 ⟨rfl, hb11⟩
          have HB11 := Lib.hid (HB10.out.trans (hb11.mono HB10.out.size))
          have Ha11 := Lib.hid (Ha10.out.below hb11)
          have Hs11 := Lib.hid (Hs10.out.below hb11)
          have Hp11 := Lib.hid (Hp10.out.below hb11)
          have Hm11 := Lib.hid (Hm10.out.below hb11)
          clear hb11
          have hm11 := match_m xs _ _ S w11 Hs11.out
          rw [mB_times, HSV.out] at hm11
          have HM11 := Lib.hid hm11; clear hm11
          go_wp2_with fail
          refine (HM11.out).mono ?_
          rintro e w12 ⟨rfl, hb12⟩
          have HB12 := Lib.hid (HB11.out.trans (hb12.mono HB11.out.size))
          have Ha12 := Lib.hid (Ha11.out.below hb12)
          have Hs12 := Lib.hid (Hs11.out.below hb12)
          have Hp12 := Lib.hid (Hp11.out.below hb12)
          have Hm12 := Lib.hid (Hm11.out.below hb12)
          clear hb12
          have hm12 := match_m xa _ _ S w12 Ha12.out
          rw [HAs.out] at hm12
          have HM12 := Lib.hid hm12; clear hm12
          go_wp2_with fail
          refine (HM12.out).mono ?_
          rintro e w13 ⟨rfl, hb13⟩
          have HB13 := Lib.hid (HB12.out.trans (hb13.mono HB12.out.size))
          have Ha13 := Lib.hid (Ha12.out.below hb13)
          have Hs13 := Lib.hid (Hs12.out.below hb13)
          have Hp13 := Lib.hid (Hp12.out.below hb13)
          have Hm13 := Lib.hid (Hm12.out.below hb13)
          clear hb13
          have hm13 := match_m xs _ _ S w13 Hs13.out
          rw [mB_times, HSV.out] at hm13
          have HM13 := Lib.hid hm13; clear hm13
          go_wp2_with fail
          refine (HM13.out).mono ?_
          rintro e w14 ⟨rfl, hb14⟩
          have HB14 := Lib.hid (HB13.out.trans (hb14.mono HB13.out.size))
          have Ha14 := Lib.hid (Ha13.out.below hb14)
          have Hs14 := Lib.hid (Hs13.out.below hb14)
          have Hp14 := Lib.hid (Hp13.out.below hb14)
          have Hm14 := Lib.hid (Hm13.out.below hb14)
          clear hb14
          have hm14 := match_m xs _ _ U w14 Hs14.out
          rw [mB_times, HSt.out] at hm14
          have HM14 := Lib.hid hm14; clear hm14
          go_wp2_with fail
          refine (HM14.out).mono ?_
          rintro e w15 ⟨rfl, hb15⟩
          have HB15 := Lib.hid (HB14.out.trans (hb15.mono HB14.out.size))
          have Ha15 := Lib.hid (Ha14.out.below hb15)
          have Hs15 := Lib.hid (Hs14.out.below hb15)
          have Hp15 := Lib.hid (Hp14.out.below hb15)
          have Hm15 := Lib.hid (Hm14.out.below hb15)
          clear hb15
          go_wp2
          go_ret
          exact ⟨rfl, HB15.out⟩
    | false =>
      have HE := Lib.hid hE
      clear hE
      have hee := HE.out
      cases hAs : mB ta (runesB S) with
      | true =>
        have HAs := Lib.hid hAs
        clear hAs
        cases hPs' : mB (.plus ta) (runesB S) with
        | true =>
          have HPs' := Lib.hid hPs'
          clear hPs'
          have HSV := Lib.hid (show mB (.star ta) (runesB S) = true by rw [HMS.out, HE.out, HPs'.out]; rfl)
          cases hSt : mB (.star ta) (runesB U) with
          | true =>
            have HSt := Lib.hid hSt
            clear hSt
            go_enter Try.func6, Try.ntmps6
            go_wp2_with fail
            refine (HL.out _).mono ?_
            rintro e w1 ⟨rfl, hb1⟩
            have HB1 := Lib.hid hb1
            clear hb1
            go_wp2_with fail
            refine (HVS.out _).mono ?_
            rintro e w2 ⟨rfl, hb2⟩
            have HB2 := Lib.hid (HB1.out.trans (hb2.mono HB1.out.size))
            clear hb2
            go_wp2_with fail
            refine (HVU.out _).mono ?_
            rintro e w3 ⟨rfl, hb3⟩
            have HB3 := Lib.hid (HB2.out.trans (hb3.mono HB2.out.size))
            clear hb3
            go_wp2_with fail
            refine (HT.out _).mono ?_
            rintro e w4 ⟨xa, xb, rfl, ha4, -, hb4⟩
            have HB4 := Lib.hid (HB3.out.trans (hb4.mono HB3.out.size))
            clear hb4
            have Ha4 := Lib.hid ha4; clear ha4
            go_wp2_with fail
            refine (HPs.out _).mono ?_
            rintro e w5 ⟨xs, rfl, -, hx5, hb5⟩
            have HB5 := Lib.hid (HB4.out.trans (hb5.mono HB4.out.size))
            have Ha5 := Lib.hid (Ha4.out.below hb5)
            clear hb5
            have Hs5 := Lib.hid hx5; clear hx5
            go_wp2_with fail
            refine (HPp.out _).mono ?_
            rintro e w6 ⟨xp, rfl, -, hx6, hb6⟩
            have HB6 := Lib.hid (HB5.out.trans (hb6.mono HB5.out.size))
            have Ha6 := Lib.hid (Ha5.out.below hb6)
            have Hs6 := Lib.hid (Hs5.out.below hb6)
            clear hb6
            have Hp6 := Lib.hid hx6; clear hx6
            go_wp2_with fail
            refine (HPm.out _).mono ?_
            rintro e w7 ⟨xm, rfl, -, hx7, hb7⟩
            have HB7 := Lib.hid (HB6.out.trans (hb7.mono HB6.out.size))
            have Ha7 := Lib.hid (Ha6.out.below hb7)
            have Hs7 := Lib.hid (Hs6.out.below hb7)
            have Hp7 := Lib.hid (Hp6.out.below hb7)
            clear hb7
            have Hm7 := Lib.hid hx7; clear hx7
            have hm7 := match_m xs _ _ [] w7 Hs7.out
            rw [runesB_nil, mB_times, mB_star_nil] at hm7
            have HM7 := Lib.hid hm7; clear hm7
            go_wp2_with fail
            refine (HM7.out).mono ?_
            rintro e w8 ⟨rfl, hb8⟩
            have HB8 := Lib.hid (HB7.out.trans (hb8.mono HB7.out.size))
            have Ha8 := Lib.hid (Ha7.out.below hb8)
            have Hs8 := Lib.hid (Hs7.out.below hb8)
            have Hp8 := Lib.hid (Hp7.out.below hb8)
            have Hm8 := Lib.hid (Hm7.out.below hb8)
            clear hb8
            have hm8 := match_m xp _ _ [] w8 Hp8.out
            rw [runesB_nil, mB_times, HN0.out, HA0.out] at hm8
            have HM8 := Lib.hid hm8; clear hm8
            go_wp2_with fail
            refine (HM8.out).mono ?_
            rintro e w9 ⟨rfl, hb9⟩
            have HB9 := Lib.hid (HB8.out.trans (hb9.mono HB8.out.size))
            have Ha9 := Lib.hid (Ha8.out.below hb9)
            have Hs9 := Lib.hid (Hs8.out.below hb9)
            have Hp9 := Lib.hid (Hp8.out.below hb9)
            have Hm9 := Lib.hid (Hm8.out.below hb9)
            clear hb9
            have hm9 := match_m xa _ _ [] w9 Ha9.out
            rw [runesB_nil, HA0.out] at hm9
            have HM9 := Lib.hid hm9; clear hm9
            go_wp2_with fail
            refine (HM9.out).mono ?_
            rintro e w10 ⟨rfl, hb10⟩
            have HB10 := Lib.hid (HB9.out.trans (hb10.mono HB9.out.size))
            have Ha10 := Lib.hid (Ha9.out.below hb10)
            have Hs10 := Lib.hid (Hs9.out.below hb10)
            have Hp10 := Lib.hid (Hp9.out.below hb10)
            have Hm10 := Lib.hid (Hm9.out.below hb10)
            clear hb10
            have hm10 := match_m xm _ _ S w10 Hm10.out
            rw [mB_times, HMM.out, HE.out, HAs.out, Bool.false_or] at hm10
            have HM10 := Lib.hid hm10; clear hm10
            go_wp2_with fail
            refine (HM10.out).mono ?_
            rintro e w11 ⟨rfl, hb11⟩
            have HB11 := Lib.hid (HB10.out.trans (hb11.mono HB10.out.size))
            have Ha11 := Lib.hid (Ha10.out.below hb11)
            have Hs11 := Lib.hid (Hs10.out.below hb11)
            have Hp11 := Lib.hid (Hp10.out.below hb11)
            have Hm11 := Lib.hid (Hm10.out.below hb11)
            clear hb11
            have hm11 := match_m xa _ _ S w11 Ha11.out
            rw [HAs.out] at hm11
            have HM11 := Lib.hid hm11; clear hm11
            go_wp2_with fail
            refine (HM11.out).mono ?_
            rintro e w12 ⟨rfl, hb12⟩
            have HB12 := Lib.hid (HB11.out.trans (hb12.mono HB11.out.size))
            have Ha12 := Lib.hid (Ha11.out.below hb12)
            have Hs12 := Lib.hid (Hs11.out.below hb12)
            have Hp12 := Lib.hid (Hp11.out.below hb12)
            have Hm12 := Lib.hid (Hm11.out.below hb12)
            clear hb12
            have hm12 := match_m xs _ _ S w12 Hs12.out
            rw [mB_times, HSV.out] at hm12
            have HM12 := Lib.hid hm12; clear hm12
            go_wp2_with fail
            refine (HM12.out).mono ?_
            rintro e w13 ⟨rfl, hb13⟩
            have HB13 := Lib.hid (HB12.out.trans (hb13.mono HB12.out.size))
            have Ha13 := Lib.hid (Ha12.out.below hb13)
            have Hs13 := Lib.hid (Hs12.out.below hb13)
            have Hp13 := Lib.hid (Hp12.out.below hb13)
            have Hm13 := Lib.hid (Hm12.out.below hb13)
            clear hb13
            have hm13 := match_m xp _ _ S w13 Hp13.out
            rw [mB_times, HPs'.out] at hm13
            have HM13 := Lib.hid hm13; clear hm13
            go_wp2_with fail
            refine (HM13.out).mono ?_
            rintro e w14 ⟨rfl, hb14⟩
            have HB14 := Lib.hid (HB13.out.trans (hb14.mono HB13.out.size))
            have Ha14 := Lib.hid (Ha13.out.below hb14)
            have Hs14 := Lib.hid (Hs13.out.below hb14)
            have Hp14 := Lib.hid (Hp13.out.below hb14)
            have Hm14 := Lib.hid (Hm13.out.below hb14)
            clear hb14
            have hm14 := match_m xa _ _ S w14 Ha14.out
            rw [HAs.out] at hm14
            have HM14 := Lib.hid hm14; clear hm14
            go_wp2_with fail
            refine (HM14.out).mono ?_
            rintro e w15 ⟨rfl, hb15⟩
            have HB15 := Lib.hid (HB14.out.trans (hb15.mono HB14.out.size))
            have Ha15 := Lib.hid (Ha14.out.below hb15)
            have Hs15 := Lib.hid (Hs14.out.below hb15)
            have Hp15 := Lib.hid (Hp14.out.below hb15)
            have Hm15 := Lib.hid (Hm14.out.below hb15)
            clear hb15
            have hm15 := match_m xs _ _ S w15 Hs15.out
            rw [mB_times, HSV.out] at hm15
            have HM15 := Lib.hid hm15; clear hm15
            go_wp2_with fail
            refine (HM15.out).mono ?_
            rintro e w16 ⟨rfl, hb16⟩
            have HB16 := Lib.hid (HB15.out.trans (hb16.mono HB15.out.size))
            have Ha16 := Lib.hid (Ha15.out.below hb16)
            have Hs16 := Lib.hid (Hs15.out.below hb16)
            have Hp16 := Lib.hid (Hp15.out.below hb16)
            have Hm16 := Lib.hid (Hm15.out.below hb16)
            clear hb16
            have hm16 := match_m xs _ _ S w16 Hs16.out
            rw [mB_times, HSV.out] at hm16
            have HM16 := Lib.hid hm16; clear hm16
            go_wp2_with fail
            refine (HM16.out).mono ?_
            rintro e w17 ⟨rfl, hb17⟩
            have HB17 := Lib.hid (HB16.out.trans (hb17.mono HB16.out.size))
            have Ha17 := Lib.hid (Ha16.out.below hb17)
            have Hs17 := Lib.hid (Hs16.out.below hb17)
            have Hp17 := Lib.hid (Hp16.out.below hb17)
            have Hm17 := Lib.hid (Hm16.out.below hb17)
            clear hb17
            have hm17 := match_m xs _ _ U w17 Hs17.out
            rw [mB_times, HSt.out] at hm17
            have HM17 := Lib.hid hm17; clear hm17
            go_wp2_with fail
            refine (HM17.out).mono ?_
            rintro e w18 ⟨rfl, hb18⟩
            have HB18 := Lib.hid (HB17.out.trans (hb18.mono HB17.out.size))
            have Ha18 := Lib.hid (Ha17.out.below hb18)
            have Hs18 := Lib.hid (Hs17.out.below hb18)
            have Hp18 := Lib.hid (Hp17.out.below hb18)
            have Hm18 := Lib.hid (Hm17.out.below hb18)
            clear hb18
            have hm18 := match_m xs _ _ SU w18 Hs18.out
            rw [mB_times, HSU.out HSV.out HSt.out] at hm18
            have HM18 := Lib.hid hm18; clear hm18
            go_wp2_with fail
            refine (HM18.out).mono ?_
            rintro e w19 ⟨rfl, hb19⟩
            have HB19 := Lib.hid (HB18.out.trans (hb19.mono HB18.out.size))
            have Ha19 := Lib.hid (Ha18.out.below hb19)
            have Hs19 := Lib.hid (Hs18.out.below hb19)
            have Hp19 := Lib.hid (Hp18.out.below hb19)
            have Hm19 := Lib.hid (Hm18.out.below hb19)
            clear hb19
            go_wp2
            go_ret
            exact ⟨rfl, HB19.out⟩
          | false =>
            have HSt := Lib.hid hSt
            clear hSt
            go_enter Try.func6, Try.ntmps6
            go_wp2_with fail
            refine (HL.out _).mono ?_
            rintro e w1 ⟨rfl, hb1⟩
            have HB1 := Lib.hid hb1
            clear hb1
            go_wp2_with fail
            refine (HVS.out _).mono ?_
            rintro e w2 ⟨rfl, hb2⟩
            have HB2 := Lib.hid (HB1.out.trans (hb2.mono HB1.out.size))
            clear hb2
            go_wp2_with fail
            refine (HVU.out _).mono ?_
            rintro e w3 ⟨rfl, hb3⟩
            have HB3 := Lib.hid (HB2.out.trans (hb3.mono HB2.out.size))
            clear hb3
            go_wp2_with fail
            refine (HT.out _).mono ?_
            rintro e w4 ⟨xa, xb, rfl, ha4, -, hb4⟩
            have HB4 := Lib.hid (HB3.out.trans (hb4.mono HB3.out.size))
            clear hb4
            have Ha4 := Lib.hid ha4; clear ha4
            go_wp2_with fail
            refine (HPs.out _).mono ?_
            rintro e w5 ⟨xs, rfl, -, hx5, hb5⟩
            have HB5 := Lib.hid (HB4.out.trans (hb5.mono HB4.out.size))
            have Ha5 := Lib.hid (Ha4.out.below hb5)
            clear hb5
            have Hs5 := Lib.hid hx5; clear hx5
            go_wp2_with fail
            refine (HPp.out _).mono ?_
            rintro e w6 ⟨xp, rfl, -, hx6, hb6⟩
            have HB6 := Lib.hid (HB5.out.trans (hb6.mono HB5.out.size))
            have Ha6 := Lib.hid (Ha5.out.below hb6)
            have Hs6 := Lib.hid (Hs5.out.below hb6)
            clear hb6
            have Hp6 := Lib.hid hx6; clear hx6
            go_wp2_with fail
            refine (HPm.out _).mono ?_
            rintro e w7 ⟨xm, rfl, -, hx7, hb7⟩
            have HB7 := Lib.hid (HB6.out.trans (hb7.mono HB6.out.size))
            have Ha7 := Lib.hid (Ha6.out.below hb7)
            have Hs7 := Lib.hid (Hs6.out.below hb7)
            have Hp7 := Lib.hid (Hp6.out.below hb7)
            clear hb7
            have Hm7 := Lib.hid hx7; clear hx7
            have hm7 := match_m xs _ _ [] w7 Hs7.out
            rw [runesB_nil, mB_times, mB_star_nil] at hm7
            have HM7 := Lib.hid hm7; clear hm7
            go_wp2_with fail
            refine (HM7.out).mono ?_
            rintro e w8 ⟨rfl, hb8⟩
            have HB8 := Lib.hid (HB7.out.trans (hb8.mono HB7.out.size))
            have Ha8 := Lib.hid (Ha7.out.below hb8)
            have Hs8 := Lib.hid (Hs7.out.below hb8)
            have Hp8 := Lib.hid (Hp7.out.below hb8)
            have Hm8 := Lib.hid (Hm7.out.below hb8)
            clear hb8
            have hm8 := match_m xp _ _ [] w8 Hp8.out
            rw [runesB_nil, mB_times, HN0.out, HA0.out] at hm8
            have HM8 := Lib.hid hm8; clear hm8
            go_wp2_with fail
            refine (HM8.out).mono ?_
            rintro e w9 ⟨rfl, hb9⟩
            have HB9 := Lib.hid (HB8.out.trans (hb9.mono HB8.out.size))
            have Ha9 := Lib.hid (Ha8.out.below hb9)
            have Hs9 := Lib.hid (Hs8.out.below hb9)
            have Hp9 := Lib.hid (Hp8.out.below hb9)
            have Hm9 := Lib.hid (Hm8.out.below hb9)
            clear hb9
            have hm9 := match_m xa _ _ [] w9 Ha9.out
            rw [runesB_nil, HA0.out] at hm9
            have HM9 := Lib.hid hm9; clear hm9
            go_wp2_with fail
            refine (HM9.out).mono ?_
            rintro e w10 ⟨rfl, hb10⟩
            have HB10 := Lib.hid (HB9.out.trans (hb10.mono HB9.out.size))
            have Ha10 := Lib.hid (Ha9.out.below hb10)
            have Hs10 := Lib.hid (Hs9.out.below hb10)
            have Hp10 := Lib.hid (Hp9.out.below hb10)
            have Hm10 := Lib.hid (Hm9.out.below hb10)
            clear hb10
            have hm10 := match_m xm _ _ S w10 Hm10.out
            rw [mB_times, HMM.out, HE.out, HAs.out, Bool.false_or] at hm10
            have HM10 := Lib.hid hm10; clear hm10
            go_wp2_with fail
            refine (HM10.out).mono ?_
            rintro e w11 ⟨rfl, hb11⟩
            have HB11 := Lib.hid (HB10.out.trans (hb11.mono HB10.out.size))
            have Ha11 := Lib.hid (Ha10.out.below hb11)
            have Hs11 := Lib.hid (Hs10.out.below hb11)
            have Hp11 := Lib.hid (Hp10.out.below hb11)
            have Hm11 := Lib.hid (Hm10.out.below hb11)
            clear hb11
            have hm11 := match_m xa _ _ S w11 Ha11.out
            rw [HAs.out] at hm11
            have HM11 := Lib.hid hm11; clear hm11
            go_wp2_with fail
            refine (HM11.out).mono ?_
            rintro e w12 ⟨rfl, hb12⟩
            have HB12 := Lib.hid (HB11.out.trans (hb12.mono HB11.out.size))
            have Ha12 := Lib.hid (Ha11.out.below hb12)
            have Hs12 := Lib.hid (Hs11.out.below hb12)
            have Hp12 := Lib.hid (Hp11.out.below hb12)
            have Hm12 := Lib.hid (Hm11.out.below hb12)
            clear hb12
            have hm12 := match_m xs _ _ S w12 Hs12.out
            rw [mB_times, HSV.out] at hm12
            have HM12 := Lib.hid hm12; clear hm12
            go_wp2_with fail
            refine (HM12.out).mono ?_
            rintro e w13 ⟨rfl, hb13⟩
            have HB13 := Lib.hid (HB12.out.trans (hb13.mono HB12.out.size))
            have Ha13 := Lib.hid (Ha12.out.below hb13)
            have Hs13 := Lib.hid (Hs12.out.below hb13)
            have Hp13 := Lib.hid (Hp12.out.below hb13)
            have Hm13 := Lib.hid (Hm12.out.below hb13)
            clear hb13
            have hm13 := match_m xp _ _ S w13 Hp13.out
            rw [mB_times, HPs'.out] at hm13
            have HM13 := Lib.hid hm13; clear hm13
            go_wp2_with fail
            refine (HM13.out).mono ?_
            rintro e w14 ⟨rfl, hb14⟩
            have HB14 := Lib.hid (HB13.out.trans (hb14.mono HB13.out.size))
            have Ha14 := Lib.hid (Ha13.out.below hb14)
            have Hs14 := Lib.hid (Hs13.out.below hb14)
            have Hp14 := Lib.hid (Hp13.out.below hb14)
            have Hm14 := Lib.hid (Hm13.out.below hb14)
            clear hb14
            have hm14 := match_m xa _ _ S w14 Ha14.out
            rw [HAs.out] at hm14
            have HM14 := Lib.hid hm14; clear hm14
            go_wp2_with fail
            refine (HM14.out).mono ?_
            rintro e w15 ⟨rfl, hb15⟩
            have HB15 := Lib.hid (HB14.out.trans (hb15.mono HB14.out.size))
            have Ha15 := Lib.hid (Ha14.out.below hb15)
            have Hs15 := Lib.hid (Hs14.out.below hb15)
            have Hp15 := Lib.hid (Hp14.out.below hb15)
            have Hm15 := Lib.hid (Hm14.out.below hb15)
            clear hb15
            have hm15 := match_m xs _ _ S w15 Hs15.out
            rw [mB_times, HSV.out] at hm15
            have HM15 := Lib.hid hm15; clear hm15
            go_wp2_with fail
            refine (HM15.out).mono ?_
            rintro e w16 ⟨rfl, hb16⟩
            have HB16 := Lib.hid (HB15.out.trans (hb16.mono HB15.out.size))
            have Ha16 := Lib.hid (Ha15.out.below hb16)
            have Hs16 := Lib.hid (Hs15.out.below hb16)
            have Hp16 := Lib.hid (Hp15.out.below hb16)
            have Hm16 := Lib.hid (Hm15.out.below hb16)
            clear hb16
            have hm16 := match_m xs _ _ S w16 Hs16.out
            rw [mB_times, HSV.out] at hm16
            have HM16 := Lib.hid hm16; clear hm16
            go_wp2_with fail
            refine (HM16.out).mono ?_
            rintro e w17 ⟨rfl, hb17⟩
            have HB17 := Lib.hid (HB16.out.trans (hb17.mono HB16.out.size))
            have Ha17 := Lib.hid (Ha16.out.below hb17)
            have Hs17 := Lib.hid (Hs16.out.below hb17)
            have Hp17 := Lib.hid (Hp16.out.below hb17)
            have Hm17 := Lib.hid (Hm16.out.below hb17)
            clear hb17
            have hm17 := match_m xs _ _ U w17 Hs17.out
            rw [mB_times, HSt.out] at hm17
            have HM17 := Lib.hid hm17; clear hm17
            go_wp2_with fail
            refine (HM17.out).mono ?_
            rintro e w18 ⟨rfl, hb18⟩
            have HB18 := Lib.hid (HB17.out.trans (hb18.mono HB17.out.size))
            have Ha18 := Lib.hid (Ha17.out.below hb18)
            have Hs18 := Lib.hid (Hs17.out.below hb18)
            have Hp18 := Lib.hid (Hp17.out.below hb18)
            have Hm18 := Lib.hid (Hm17.out.below hb18)
            clear hb18
            go_wp2
            go_ret
            exact ⟨rfl, HB18.out⟩
        | false =>
          have HPs' := Lib.hid hPs'
          clear hPs'
          have HSV := Lib.hid (show mB (.star ta) (runesB S) = false by rw [HMS.out, HE.out, HPs'.out]; rfl)
          exact absurd (HONE.out HAs.out) (by rw [HSV.out]; decide)
      | false =>
        have HAs := Lib.hid hAs
        clear hAs
        cases hPs' : mB (.plus ta) (runesB S) with
        | true =>
          have HPs' := Lib.hid hPs'
          clear hPs'
          have HSV := Lib.hid (show mB (.star ta) (runesB S) = true by rw [HMS.out, HE.out, HPs'.out]; rfl)
          cases hSt : mB (.star ta) (runesB U) with
          | true =>
            have HSt := Lib.hid hSt
            clear hSt
            go_enter Try.func6, Try.ntmps6
            go_wp2_with fail
            refine (HL.out _).mono ?_
            rintro e w1 ⟨rfl, hb1⟩
            have HB1 := Lib.hid hb1
            clear hb1
            go_wp2_with fail
            refine (HVS.out _).mono ?_
            rintro e w2 ⟨rfl, hb2⟩
            have HB2 := Lib.hid (HB1.out.trans (hb2.mono HB1.out.size))
            clear hb2
            go_wp2_with fail
            refine (HVU.out _).mono ?_
            rintro e w3 ⟨rfl, hb3⟩
            have HB3 := Lib.hid (HB2.out.trans (hb3.mono HB2.out.size))
            clear hb3
            go_wp2_with fail
            refine (HT.out _).mono ?_
            rintro e w4 ⟨xa, xb, rfl, ha4, -, hb4⟩
            have HB4 := Lib.hid (HB3.out.trans (hb4.mono HB3.out.size))
            clear hb4
            have Ha4 := Lib.hid ha4; clear ha4
            go_wp2_with fail
            refine (HPs.out _).mono ?_
            rintro e w5 ⟨xs, rfl, -, hx5, hb5⟩
            have HB5 := Lib.hid (HB4.out.trans (hb5.mono HB4.out.size))
            have Ha5 := Lib.hid (Ha4.out.below hb5)
            clear hb5
            have Hs5 := Lib.hid hx5; clear hx5
            go_wp2_with fail
            refine (HPp.out _).mono ?_
            rintro e w6 ⟨xp, rfl, -, hx6, hb6⟩
            have HB6 := Lib.hid (HB5.out.trans (hb6.mono HB5.out.size))
            have Ha6 := Lib.hid (Ha5.out.below hb6)
            have Hs6 := Lib.hid (Hs5.out.below hb6)
            clear hb6
            have Hp6 := Lib.hid hx6; clear hx6
            go_wp2_with fail
            refine (HPm.out _).mono ?_
            rintro e w7 ⟨xm, rfl, -, hx7, hb7⟩
            have HB7 := Lib.hid (HB6.out.trans (hb7.mono HB6.out.size))
            have Ha7 := Lib.hid (Ha6.out.below hb7)
            have Hs7 := Lib.hid (Hs6.out.below hb7)
            have Hp7 := Lib.hid (Hp6.out.below hb7)
            clear hb7
            have Hm7 := Lib.hid hx7; clear hx7
            have hm7 := match_m xs _ _ [] w7 Hs7.out
            rw [runesB_nil, mB_times, mB_star_nil] at hm7
            have HM7 := Lib.hid hm7; clear hm7
            go_wp2_with fail
            refine (HM7.out).mono ?_
            rintro e w8 ⟨rfl, hb8⟩
            have HB8 := Lib.hid (HB7.out.trans (hb8.mono HB7.out.size))
            have Ha8 := Lib.hid (Ha7.out.below hb8)
            have Hs8 := Lib.hid (Hs7.out.below hb8)
            have Hp8 := Lib.hid (Hp7.out.below hb8)
            have Hm8 := Lib.hid (Hm7.out.below hb8)
            clear hb8
            have hm8 := match_m xp _ _ [] w8 Hp8.out
            rw [runesB_nil, mB_times, HN0.out, HA0.out] at hm8
            have HM8 := Lib.hid hm8; clear hm8
            go_wp2_with fail
            refine (HM8.out).mono ?_
            rintro e w9 ⟨rfl, hb9⟩
            have HB9 := Lib.hid (HB8.out.trans (hb9.mono HB8.out.size))
            have Ha9 := Lib.hid (Ha8.out.below hb9)
            have Hs9 := Lib.hid (Hs8.out.below hb9)
            have Hp9 := Lib.hid (Hp8.out.below hb9)
            have Hm9 := Lib.hid (Hm8.out.below hb9)
            clear hb9
            have hm9 := match_m xa _ _ [] w9 Ha9.out
            rw [runesB_nil, HA0.out] at hm9
            have HM9 := Lib.hid hm9; clear hm9
            go_wp2_with fail
            refine (HM9.out).mono ?_
            rintro e w10 ⟨rfl, hb10⟩
            have HB10 := Lib.hid (HB9.out.trans (hb10.mono HB9.out.size))
            have Ha10 := Lib.hid (Ha9.out.below hb10)
            have Hs10 := Lib.hid (Hs9.out.below hb10)
            have Hp10 := Lib.hid (Hp9.out.below hb10)
            have Hm10 := Lib.hid (Hm9.out.below hb10)
            clear hb10
            have hm10 := match_m xm _ _ S w10 Hm10.out
            rw [mB_times, HMM.out, HE.out, HAs.out, Bool.false_or] at hm10
            have HM10 := Lib.hid hm10; clear hm10
            go_wp2_with fail
            refine (HM10.out).mono ?_
            rintro e w11 ⟨rfl, hb11⟩
            have HB11 := Lib.hid (HB10.out.trans (hb11.mono HB10.out.size))
            have Ha11 := Lib.hid (Ha10.out.below hb11)
            have Hs11 := Lib.hid (Hs10.out.below hb11)
            have Hp11 := Lib.hid (Hp10.out.below hb11)
            have Hm11 := Lib.hid (Hm10.out.below hb11)
            clear hb11
            have hm11 := match_m xa _ _ S w11 Ha11.out
            rw [HAs.out] at hm11
            have HM11 := Lib.hid hm11; clear hm11
            go_wp2_with fail
            refine (HM11.out).mono ?_
            rintro e w12 ⟨rfl, hb12⟩
            have HB12 := Lib.hid (HB11.out.trans (hb12.mono HB11.out.size))
            have Ha12 := Lib.hid (Ha11.out.below hb12)
            have Hs12 := Lib.hid (Hs11.out.below hb12)
            have Hp12 := Lib.hid (Hp11.out.below hb12)
            have Hm12 := Lib.hid (Hm11.out.below hb12)
            clear hb12
            have hm12 := match_m xs _ _ S w12 Hs12.out
            rw [mB_times, HSV.out] at hm12
            have HM12 := Lib.hid hm12; clear hm12
            go_wp2_with fail
            refine (HM12.out).mono ?_
            rintro e w13 ⟨rfl, hb13⟩
            have HB13 := Lib.hid (HB12.out.trans (hb13.mono HB12.out.size))
            have Ha13 := Lib.hid (Ha12.out.below hb13)
            have Hs13 := Lib.hid (Hs12.out.below hb13)
            have Hp13 := Lib.hid (Hp12.out.below hb13)
            have Hm13 := Lib.hid (Hm12.out.below hb13)
            clear hb13
            have hm13 := match_m xp _ _ S w13 Hp13.out
            rw [mB_times, HPs'.out] at hm13
            have HM13 := Lib.hid hm13; clear hm13
            go_wp2_with fail
            refine (HM13.out).mono ?_
            rintro e w14 ⟨rfl, hb14⟩
            have HB14 := Lib.hid (HB13.out.trans (hb14.mono HB13.out.size))
            have Ha14 := Lib.hid (Ha13.out.below hb14)
            have Hs14 := Lib.hid (Hs13.out.below hb14)
            have Hp14 := Lib.hid (Hp13.out.below hb14)
            have Hm14 := Lib.hid (Hm13.out.below hb14)
            clear hb14
            have hm14 := match_m xa _ _ S w14 Ha14.out
            rw [HAs.out] at hm14
            have HM14 := Lib.hid hm14; clear hm14
            go_wp2_with fail
            refine (HM14.out).mono ?_
            rintro e w15 ⟨rfl, hb15⟩
            have HB15 := Lib.hid (HB14.out.trans (hb15.mono HB14.out.size))
            have Ha15 := Lib.hid (Ha14.out.below hb15)
            have Hs15 := Lib.hid (Hs14.out.below hb15)
            have Hp15 := Lib.hid (Hp14.out.below hb15)
            have Hm15 := Lib.hid (Hm14.out.below hb15)
            clear hb15
            have hm15 := match_m xs _ _ S w15 Hs15.out
            rw [mB_times, HSV.out] at hm15
            have HM15 := Lib.hid hm15; clear hm15
            go_wp2_with fail
            refine (HM15.out).mono ?_
            rintro e w16 ⟨rfl, hb16⟩
            have HB16 := Lib.hid (HB15.out.trans (hb16.mono HB15.out.size))
            have Ha16 := Lib.hid (Ha15.out.below hb16)
            have Hs16 := Lib.hid (Hs15.out.below hb16)
            have Hp16 := Lib.hid (Hp15.out.below hb16)
            have Hm16 := Lib.hid (Hm15.out.below hb16)
            clear hb16
            have hm16 := match_m xs _ _ U w16 Hs16.out
            rw [mB_times, HSt.out] at hm16
            have HM16 := Lib.hid hm16; clear hm16
            go_wp2_with fail
            refine (HM16.out).mono ?_
            rintro e w17 ⟨rfl, hb17⟩
            have HB17 := Lib.hid (HB16.out.trans (hb17.mono HB16.out.size))
            have Ha17 := Lib.hid (Ha16.out.below hb17)
            have Hs17 := Lib.hid (Hs16.out.below hb17)
            have Hp17 := Lib.hid (Hp16.out.below hb17)
            have Hm17 := Lib.hid (Hm16.out.below hb17)
            clear hb17
            have hm17 := match_m xs _ _ SU w17 Hs17.out
            rw [mB_times, HSU.out HSV.out HSt.out] at hm17
            have HM17 := Lib.hid hm17; clear hm17
            go_wp2_with fail
            refine (HM17.out).mono ?_
            rintro e w18 ⟨rfl, hb18⟩
            have HB18 := Lib.hid (HB17.out.trans (hb18.mono HB17.out.size))
            have Ha18 := Lib.hid (Ha17.out.below hb18)
            have Hs18 := Lib.hid (Hs17.out.below hb18)
            have Hp18 := Lib.hid (Hp17.out.below hb18)
            have Hm18 := Lib.hid (Hm17.out.below hb18)
            clear hb18
            go_wp2
            go_ret
            exact ⟨rfl, HB18.out⟩
          | false =>
            have HSt := Lib.hid hSt
            clear hSt
            go_enter Try.func6, Try.ntmps6
            go_wp2_with fail
            refine (HL.out _).mono ?_
            rintro e w1 ⟨rfl, hb1⟩
            have HB1 := Lib.hid hb1
            clear hb1
            go_wp2_with fail
            refine (HVS.out _).mono ?_
            rintro e w2 ⟨rfl, hb2⟩
            have HB2 := Lib.hid (HB1.out.trans (hb2.mono HB1.out.size))
            clear hb2
            go_wp2_with fail
            refine (HVU.out _).mono ?_
            rintro e w3 ⟨rfl, hb3⟩
            have HB3 := Lib.hid (HB2.out.trans (hb3.mono HB2.out.size))
            clear hb3
            go_wp2_with fail
            refine (HT.out _).mono ?_
            rintro e w4 ⟨xa, xb, rfl, ha4, -, hb4⟩
            have HB4 := Lib.hid (HB3.out.trans (hb4.mono HB3.out.size))
            clear hb4
            have Ha4 := Lib.hid ha4; clear ha4
            go_wp2_with fail
            refine (HPs.out _).mono ?_
            rintro e w5 ⟨xs, rfl, -, hx5, hb5⟩
            have HB5 := Lib.hid (HB4.out.trans (hb5.mono HB4.out.size))
            have Ha5 := Lib.hid (Ha4.out.below hb5)
            clear hb5
            have Hs5 := Lib.hid hx5; clear hx5
            go_wp2_with fail
            refine (HPp.out _).mono ?_
            rintro e w6 ⟨xp, rfl, -, hx6, hb6⟩
            have HB6 := Lib.hid (HB5.out.trans (hb6.mono HB5.out.size))
            have Ha6 := Lib.hid (Ha5.out.below hb6)
            have Hs6 := Lib.hid (Hs5.out.below hb6)
            clear hb6
            have Hp6 := Lib.hid hx6; clear hx6
            go_wp2_with fail
            refine (HPm.out _).mono ?_
            rintro e w7 ⟨xm, rfl, -, hx7, hb7⟩
            have HB7 := Lib.hid (HB6.out.trans (hb7.mono HB6.out.size))
            have Ha7 := Lib.hid (Ha6.out.below hb7)
            have Hs7 := Lib.hid (Hs6.out.below hb7)
            have Hp7 := Lib.hid (Hp6.out.below hb7)
            clear hb7
            have Hm7 := Lib.hid hx7; clear hx7
            have hm7 := match_m xs _ _ [] w7 Hs7.out
            rw [runesB_nil, mB_times, mB_star_nil] at hm7
            have HM7 := Lib.hid hm7; clear hm7
            go_wp2_with fail
            refine (HM7.out).mono ?_
            rintro e w8 ⟨rfl, hb8⟩
            have HB8 := Lib.hid (HB7.out.trans (hb8.mono HB7.out.size))
            have Ha8 := Lib.hid (Ha7.out.below hb8)
            have Hs8 := Lib.hid (Hs7.out.below hb8)
            have Hp8 := Lib.hid (Hp7.out.below hb8)
            have Hm8 := Lib.hid (Hm7.out.below hb8)
            clear hb8
            have hm8 := match_m xp _ _ [] w8 Hp8.out
            rw [runesB_nil, mB_times, HN0.out, HA0.out] at hm8
            have HM8 := Lib.hid hm8; clear hm8
            go_wp2_with fail
            refine (HM8.out).mono ?_
            rintro e w9 ⟨rfl, hb9⟩
            have HB9 := Lib.hid (HB8.out.trans (hb9.mono HB8.out.size))
            have Ha9 := Lib.hid (Ha8.out.below hb9)
            have Hs9 := Lib.hid (Hs8.out.below hb9)
            have Hp9 := Lib.hid (Hp8.out.below hb9)
            have Hm9 := Lib.hid (Hm8.out.below hb9)
            clear hb9
            have hm9 := match_m xa _ _ [] w9 Ha9.out
            rw [runesB_nil, HA0.out] at hm9
            have HM9 := Lib.hid hm9; clear hm9
            go_wp2_with fail
            refine (HM9.out).mono ?_
            rintro e w10 ⟨rfl, hb10⟩
            have HB10 := Lib.hid (HB9.out.trans (hb10.mono HB9.out.size))
            have Ha10 := Lib.hid (Ha9.out.below hb10)
            have Hs10 := Lib.hid (Hs9.out.below hb10)
            have Hp10 := Lib.hid (Hp9.out.below hb10)
            have Hm10 := Lib.hid (Hm9.out.below hb10)
            clear hb10
            have hm10 := match_m xm _ _ S w10 Hm10.out
            rw [mB_times, HMM.out, HE.out, HAs.out, Bool.false_or] at hm10
            have HM10 := Lib.hid hm10; clear hm10
            go_wp2_with fail
            refine (HM10.out).mono ?_
            rintro e w11 ⟨rfl, hb11⟩
            have HB11 := Lib.hid (HB10.out.trans (hb11.mono HB10.out.size))
            have Ha11 := Lib.hid (Ha10.out.below hb11)
            have Hs11 := Lib.hid (Hs10.out.below hb11)
            have Hp11 := Lib.hid (Hp10.out.below hb11)
            have Hm11 := Lib.hid (Hm10.out.below hb11)
            clear hb11
            have hm11 := match_m xa _ _ S w11 Ha11.out
            rw [HAs.out] at hm11
            have HM11 := Lib.hid hm11; clear hm11
            go_wp2_with fail
            refine (HM11.out).mono ?_
            rintro e w12 ⟨rfl, hb12⟩
            have HB12 := Lib.hid (HB11.out.trans (hb12.mono HB11.out.size))
            have Ha12 := Lib.hid (Ha11.out.below hb12)
            have Hs12 := Lib.hid (Hs11.out.below hb12)
            have Hp12 := Lib.hid (Hp11.out.below hb12)
            have Hm12 := Lib.hid (Hm11.out.below hb12)
            clear hb12
            have hm12 := match_m xs _ _ S w12 Hs12.out
            rw [mB_times, HSV.out] at hm12
            have HM12 := Lib.hid hm12; clear hm12
            go_wp2_with fail
            refine (HM12.out).mono ?_
            rintro e w13 ⟨rfl, hb13⟩
            have HB13 := Lib.hid (HB12.out.trans (hb13.mono HB12.out.size))
            have Ha13 := Lib.hid (Ha12.out.below hb13)
            have Hs13 := Lib.hid (Hs12.out.below hb13)
            have Hp13 := Lib.hid (Hp12.out.below hb13)
            have Hm13 := Lib.hid (Hm12.out.below hb13)
            clear hb13
            have hm13 := match_m xp _ _ S w13 Hp13.out
            rw [mB_times, HPs'.out] at hm13
            have HM13 := Lib.hid hm13; clear hm13
            go_wp2_with fail
            refine (HM13.out).mono ?_
            rintro e w14 ⟨rfl, hb14⟩
            have HB14 := Lib.hid (HB13.out.trans (hb14.mono HB13.out.size))
            have Ha14 := Lib.hid (Ha13.out.below hb14)
            have Hs14 := Lib.hid (Hs13.out.below hb14)
            have Hp14 := Lib.hid (Hp13.out.below hb14)
            have Hm14 := Lib.hid (Hm13.out.below hb14)
            clear hb14
            have hm14 := match_m xa _ _ S w14 Ha14.out
            rw [HAs.out] at hm14
            have HM14 := Lib.hid hm14; clear hm14
            go_wp2_with fail
            refine (HM14.out).mono ?_
            rintro e w15 ⟨rfl, hb15⟩
            have HB15 := Lib.hid (HB14.out.trans (hb15.mono HB14.out.size))
            have Ha15 := Lib.hid (Ha14.out.below hb15)
            have Hs15 := Lib.hid (Hs14.out.below hb15)
            have Hp15 := Lib.hid (Hp14.out.below hb15)
            have Hm15 := Lib.hid (Hm14.out.below hb15)
            clear hb15
            have hm15 := match_m xs _ _ S w15 Hs15.out
            rw [mB_times, HSV.out] at hm15
            have HM15 := Lib.hid hm15; clear hm15
            go_wp2_with fail
            refine (HM15.out).mono ?_
            rintro e w16 ⟨rfl, hb16⟩
            have HB16 := Lib.hid (HB15.out.trans (hb16.mono HB15.out.size))
            have Ha16 := Lib.hid (Ha15.out.below hb16)
            have Hs16 := Lib.hid (Hs15.out.below hb16)
            have Hp16 := Lib.hid (Hp15.out.below hb16)
            have Hm16 := Lib.hid (Hm15.out.below hb16)
            clear hb16
            have hm16 := match_m xs _ _ U w16 Hs16.out
            rw [mB_times, HSt.out] at hm16
            have HM16 := Lib.hid hm16; clear hm16
            go_wp2_with fail
            refine (HM16.out).mono ?_
            rintro e w17 ⟨rfl, hb17⟩
            have HB17 := Lib.hid (HB16.out.trans (hb17.mono HB16.out.size))
            have Ha17 := Lib.hid (Ha16.out.below hb17)
            have Hs17 := Lib.hid (Hs16.out.below hb17)
            have Hp17 := Lib.hid (Hp16.out.below hb17)
            have Hm17 := Lib.hid (Hm16.out.below hb17)
            clear hb17
            go_wp2
            go_ret
            exact ⟨rfl, HB17.out⟩
        | false =>
          have HPs' := Lib.hid hPs'
          clear hPs'
          have HSV := Lib.hid (show mB (.star ta) (runesB S) = false by rw [HMS.out, HE.out, HPs'.out]; rfl)
          go_enter Try.func6, Try.ntmps6
          go_wp2_with fail
          refine (HL.out _).mono ?_
          rintro e w1 ⟨rfl, hb1⟩
          have HB1 := Lib.hid hb1
          clear hb1
          go_wp2_with fail
          refine (HVS.out _).mono ?_
          rintro e w2 ⟨rfl, hb2⟩
          have HB2 := Lib.hid (HB1.out.trans (hb2.mono HB1.out.size))
          clear hb2
          go_wp2_with fail
          refine (HVU.out _).mono ?_
          rintro e w3 ⟨rfl, hb3⟩
          have HB3 := Lib.hid (HB2.out.trans (hb3.mono HB2.out.size))
          clear hb3
          go_wp2_with fail
          refine (HT.out _).mono ?_
          rintro e w4 ⟨xa, xb, rfl, ha4, -, hb4⟩
          have HB4 := Lib.hid (HB3.out.trans (hb4.mono HB3.out.size))
          clear hb4
          have Ha4 := Lib.hid ha4; clear ha4
          go_wp2_with fail
          refine (HPs.out _).mono ?_
          rintro e w5 ⟨xs, rfl, -, hx5, hb5⟩
          have HB5 := Lib.hid (HB4.out.trans (hb5.mono HB4.out.size))
          have Ha5 := Lib.hid (Ha4.out.below hb5)
          clear hb5
          have Hs5 := Lib.hid hx5; clear hx5
          go_wp2_with fail
          refine (HPp.out _).mono ?_
          rintro e w6 ⟨xp, rfl, -, hx6, hb6⟩
          have HB6 := Lib.hid (HB5.out.trans (hb6.mono HB5.out.size))
          have Ha6 := Lib.hid (Ha5.out.below hb6)
          have Hs6 := Lib.hid (Hs5.out.below hb6)
          clear hb6
          have Hp6 := Lib.hid hx6; clear hx6
          go_wp2_with fail
          refine (HPm.out _).mono ?_
          rintro e w7 ⟨xm, rfl, -, hx7, hb7⟩
          have HB7 := Lib.hid (HB6.out.trans (hb7.mono HB6.out.size))
          have Ha7 := Lib.hid (Ha6.out.below hb7)
          have Hs7 := Lib.hid (Hs6.out.below hb7)
          have Hp7 := Lib.hid (Hp6.out.below hb7)
          clear hb7
          have Hm7 := Lib.hid hx7; clear hx7
          have hm7 := match_m xs _ _ [] w7 Hs7.out
          rw [runesB_nil, mB_times, mB_star_nil] at hm7
          have HM7 := Lib.hid hm7; clear hm7
          go_wp2_with fail
          refine (HM7.out).mono ?_
          rintro e w8 ⟨rfl, hb8⟩
          have HB8 := Lib.hid (HB7.out.trans (hb8.mono HB7.out.size))
          have Ha8 := Lib.hid (Ha7.out.below hb8)
          have Hs8 := Lib.hid (Hs7.out.below hb8)
          have Hp8 := Lib.hid (Hp7.out.below hb8)
          have Hm8 := Lib.hid (Hm7.out.below hb8)
          clear hb8
          have hm8 := match_m xp _ _ [] w8 Hp8.out
          rw [runesB_nil, mB_times, HN0.out, HA0.out] at hm8
          have HM8 := Lib.hid hm8; clear hm8
          go_wp2_with fail
          refine (HM8.out).mono ?_
          rintro e w9 ⟨rfl, hb9⟩
          have HB9 := Lib.hid (HB8.out.trans (hb9.mono HB8.out.size))
          have Ha9 := Lib.hid (Ha8.out.below hb9)
          have Hs9 := Lib.hid (Hs8.out.below hb9)
          have Hp9 := Lib.hid (Hp8.out.below hb9)
          have Hm9 := Lib.hid (Hm8.out.below hb9)
          clear hb9
          have hm9 := match_m xa _ _ [] w9 Ha9.out
          rw [runesB_nil, HA0.out] at hm9
          have HM9 := Lib.hid hm9; clear hm9
          go_wp2_with fail
          refine (HM9.out).mono ?_
          rintro e w10 ⟨rfl, hb10⟩
          have HB10 := Lib.hid (HB9.out.trans (hb10.mono HB9.out.size))
          have Ha10 := Lib.hid (Ha9.out.below hb10)
          have Hs10 := Lib.hid (Hs9.out.below hb10)
          have Hp10 := Lib.hid (Hp9.out.below hb10)
          have Hm10 := Lib.hid (Hm9.out.below hb10)
          clear hb10
          have hm10 := match_m xm _ _ S w10 Hm10.out
          rw [mB_times, HMM.out, HE.out, HAs.out, Bool.false_or] at hm10
          have HM10 := Lib.hid hm10; clear hm10
          go_wp2_with fail
          refine (HM10.out).mono ?_
          rintro e w11 ⟨rfl, hb11⟩
          have HB11 := Lib.hid (HB10.out.trans (hb11.mono HB10.out.size))
          have Ha11 := Lib.hid (Ha10.out.below hb11)
          have Hs11 := Lib.hid (Hs10.out.below hb11)
          have Hp11 := Lib.hid (Hp10.out.below hb11)
          have Hm11 := Lib.hid (Hm10.out.below hb11)
          clear hb11
          have hm11 := match_m xa _ _ S w11 Ha11.out
          rw [HAs.out] at hm11
          have HM11 := Lib.hid hm11; clear hm11
          go_wp2_with fail
          refine (HM11.out).mono ?_
          rintro e w12 ⟨rfl, hb12⟩
          have HB12 := Lib.hid (HB11.out.trans (hb12.mono HB11.out.size))
          have Ha12 := Lib.hid (Ha11.out.below hb12)
          have Hs12 := Lib.hid (Hs11.out.below hb12)
          have Hp12 := Lib.hid (Hp11.out.below hb12)
          have Hm12 := Lib.hid (Hm11.out.below hb12)
          clear hb12
          have hm12 := match_m xs _ _ S w12 Hs12.out
          rw [mB_times, HSV.out] at hm12
          have HM12 := Lib.hid hm12; clear hm12
          go_wp2_with fail
          refine (HM12.out).mono ?_
          rintro e w13 ⟨rfl, hb13⟩
          have HB13 := Lib.hid (HB12.out.trans (hb13.mono HB12.out.size))
          have Ha13 := Lib.hid (Ha12.out.below hb13)
          have Hs13 := Lib.hid (Hs12.out.below hb13)
          have Hp13 := Lib.hid (Hp12.out.below hb13)
          have Hm13 := Lib.hid (Hm12.out.below hb13)
          clear hb13
          have hm13 := match_m xp _ _ S w13 Hp13.out
          rw [mB_times, HPs'.out] at hm13
          have HM13 := Lib.hid hm13; clear hm13
          go_wp2_with fail
          refine (HM13.out).mono ?_
          rintro e w14 ⟨rfl, hb14⟩
          have HB14 := Lib.hid (HB13.out.trans (hb14.mono HB13.out.size))
          have Ha14 := Lib.hid (Ha13.out.below hb14)
          have Hs14 := Lib.hid (Hs13.out.below hb14)
          have Hp14 := Lib.hid (Hp13.out.below hb14)
          have Hm14 := Lib.hid (Hm13.out.below hb14)
          clear hb14
          have hm14 := match_m xa _ _ S w14 Ha14.out
          rw [HAs.out] at hm14
          have HM14 := Lib.hid hm14; clear hm14
          go_wp2_with fail
          refine (HM14.out).mono ?_
          rintro e w15 ⟨rfl, hb15⟩
          have HB15 := Lib.hid (HB14.out.trans (hb15.mono HB14.out.size))
          have Ha15 := Lib.hid (Ha14.out.below hb15)
          have Hs15 := Lib.hid (Hs14.out.below hb15)
          have Hp15 := Lib.hid (Hp14.out.below hb15)
          have Hm15 := Lib.hid (Hm14.out.below hb15)
          clear hb15
          have hm15 := match_m xs _ _ S w15 Hs15.out
          rw [mB_times, HSV.out] at hm15
          have HM15 := Lib.hid hm15; clear hm15
          go_wp2_with fail
          refine (HM15.out).mono ?_
          rintro e w16 ⟨rfl, hb16⟩
          have HB16 := Lib.hid (HB15.out.trans (hb16.mono HB15.out.size))
          have Ha16 := Lib.hid (Ha15.out.below hb16)
          have Hs16 := Lib.hid (Hs15.out.below hb16)
          have Hp16 := Lib.hid (Hp15.out.below hb16)
          have Hm16 := Lib.hid (Hm15.out.below hb16)
          clear hb16
          go_wp2
          go_ret
          exact ⟨rfl, HB16.out⟩
theorem rexStars_walk (p s u : ByteArray) (w : World) : Calls Try.prog 6 #[.string p, .string s, .string u] w fun e w' => e = .returned (.bool true) ∧ Below w.heap.size w w' := by
  obtain ⟨P, rfl⟩ : ∃ P, p = mkB P := ⟨bl p, (mk_bl p).symm⟩
  obtain ⟨S, rfl⟩ : ∃ S, s = mkB S := ⟨bl s, (mk_bl s).symm⟩
  obtain ⟨U, rfl⟩ : ∃ U, u = mkB U := ⟨bl u, (mk_bl u).symm⟩
  have hsP : (mkB P).size = P.length := by rw [← bl_len, bl_mk]
  by_cases hP : 256 < P.length
  · have dP : decide ((256 : Int) < ((mkB P).size : Int)) = true := by rw [hsP]; simp; omega
    have gP : (256 : Int) < ((mkB P).size : Int) := by rw [hsP]; omega
    have HL := Lib.hid (fun W => live_any W)
    clear hsP
    go_enter Try.func6, Try.ntmps6
    go_wp2_with fail
    refine (HL.out _).mono ?_
    rintro e w1 ⟨rfl, hb1⟩
    have HB1 := Lib.hid hb1; clear hb1
    go_wp2_with fail
    refine (HL.out _).mono ?_
    rintro e w2 ⟨rfl, hb2⟩
    have HB2 := Lib.hid (HB1.out.trans (hb2.mono HB1.out.size)); clear hb2
    go_wp2
    go_ret
    exact ⟨rfl, HB2.out⟩
  have dP : decide ((256 : Int) < ((mkB P).size : Int)) = false := by rw [hsP]; simp; omega
  have gP : ¬ (256 : Int) < ((mkB P).size : Int) := by rw [hsP]; omega
  have HSP := Lib.hid hsP
  clear hsP
  have hsS : (mkB S).size = S.length := by rw [← bl_len, bl_mk]
  by_cases hS : 60 < S.length
  · have dS : decide ((60 : Int) < ((mkB S).size : Int)) = true := by rw [hsS]; simp; omega
    have gS : (60 : Int) < ((mkB S).size : Int) := by rw [hsS]; omega
    have HL := Lib.hid (fun W => live_any W)
    clear hsS
    go_enter Try.func6, Try.ntmps6
    go_wp2_with fail
    refine (HL.out _).mono ?_
    rintro e w1 ⟨rfl, hb1⟩
    have HB1 := Lib.hid hb1; clear hb1
    go_wp2_with fail
    refine (HL.out _).mono ?_
    rintro e w2 ⟨rfl, hb2⟩
    have HB2 := Lib.hid (HB1.out.trans (hb2.mono HB1.out.size)); clear hb2
    go_wp2
    go_ret
    exact ⟨rfl, HB2.out⟩
  have dS : decide ((60 : Int) < ((mkB S).size : Int)) = false := by rw [hsS]; simp; omega
  have gS : ¬ (60 : Int) < ((mkB S).size : Int) := by rw [hsS]; omega
  have HSS := Lib.hid hsS
  clear hsS
  have hsU : (mkB U).size = U.length := by rw [← bl_len, bl_mk]
  by_cases hU : 60 < U.length
  · have dU : decide ((60 : Int) < ((mkB U).size : Int)) = true := by rw [hsU]; simp; omega
    have gU : (60 : Int) < ((mkB U).size : Int) := by rw [hsU]; omega
    have HL := Lib.hid (fun W => live_any W)
    clear hsU
    go_enter Try.func6, Try.ntmps6
    go_wp2_with fail
    refine (HL.out _).mono ?_
    rintro e w1 ⟨rfl, hb1⟩
    have HB1 := Lib.hid hb1; clear hb1
    go_wp2_with fail
    refine (HL.out _).mono ?_
    rintro e w2 ⟨rfl, hb2⟩
    have HB2 := Lib.hid (HB1.out.trans (hb2.mono HB1.out.size)); clear hb2
    go_wp2
    go_ret
    exact ⟨rfl, HB2.out⟩
  have dU : decide ((60 : Int) < ((mkB U).size : Int)) = false := by rw [hsU]; simp; omega
  have gU : ¬ (60 : Int) < ((mkB U).size : Int) := by rw [hsU]; omega
  have HSU := Lib.hid hsU
  clear hsU
  have HVS := Lib.hid (fun W => rvalid_any (mkB S) W (by rw [HSS.out]; omega))
  cases hvS : validB (mkB S) with
  | false =>
    rw [hvS] at HVS
    have HL := Lib.hid (fun W => live_any W)
    clear hvS
    go_enter Try.func6, Try.ntmps6
    go_wp2_with fail
    refine (HL.out _).mono ?_
    rintro e w1 ⟨rfl, hb1⟩
    have HB1 := Lib.hid hb1
    clear hb1
    go_wp2_with fail
    refine (HVS.out _).mono ?_
    rintro e w2 ⟨rfl, hb2⟩
    have HB2 := Lib.hid (HB1.out.trans (hb2.mono HB1.out.size))
    clear hb2
    go_wp2_with fail
    refine (HL.out _).mono ?_
    rintro e w3 ⟨rfl, hb3⟩
    have HB3 := Lib.hid (HB2.out.trans (hb3.mono HB2.out.size))
    clear hb3
    go_wp2
    go_ret
    exact ⟨rfl, HB3.out⟩
  | true =>
  rw [hvS] at HVS
  have hdS : Lib.validD S = true := by unfold validB at hvS; rw [bl_mk] at hvS; exact hvS
  have HVU := Lib.hid (fun W => rvalid_any (mkB U) W (by rw [HSU.out]; omega))
  cases hvU : validB (mkB U) with
  | false =>
    rw [hvU] at HVU
    have HL := Lib.hid (fun W => live_any W)
    clear hvU
    go_enter Try.func6, Try.ntmps6
    go_wp2_with fail
    refine (HL.out _).mono ?_
    rintro e w1 ⟨rfl, hb1⟩
    have HB1 := Lib.hid hb1
    clear hb1
    go_wp2_with fail
    refine (HVS.out _).mono ?_
    rintro e w2 ⟨rfl, hb2⟩
    have HB2 := Lib.hid (HB1.out.trans (hb2.mono HB1.out.size))
    clear hb2
    go_wp2_with fail
    refine (HVU.out _).mono ?_
    rintro e w3 ⟨rfl, hb3⟩
    have HB3 := Lib.hid (HB2.out.trans (hb3.mono HB2.out.size))
    clear hb3
    go_wp2_with fail
    refine (HL.out _).mono ?_
    rintro e w4 ⟨rfl, hb4⟩
    have HB4 := Lib.hid (HB3.out.trans (hb4.mono HB3.out.size))
    clear hb4
    go_wp2
    go_ret
    exact ⟨rfl, HB4.out⟩
  | true =>
  rw [hvU] at HVU
  have hdU : Lib.validD U = true := by unfold validB at hvU; rw [bl_mk] at hvU; exact hvU
  exact rexStars_in P S U w (by omega) (by omega) (by omega) hdS hdU HVS HVU
end

set_option maxRecDepth 100000 in
theorem rexStars_lifted (os : Os) (started : os.Started) (H : Type) (enc : TypeId × Value → H) :
    ReturnsInHanded {} Try.checked os 6 .any (Rows.rexStarsSpec.pre6 enc Try.prog Try.f6 Rows.rexStarsRow.domain false) (Rows.rexStarsSpec.post enc Try.prog Try.f6 false true false false) := by
  refine returnsInHanded_of_change (C := Try.checked) ownKn started (by kernel_rfl) Try.func6
    (ChangeSpec.witness6 (enc := enc) (C := Try.checked) false ⟨#[], #[.string ⟨#[]⟩, .string ⟨#[]⟩, .string ⟨#[]⟩], []⟩ 8 (by kernel_rfl) (by kernel_rfl) (by kernel_rfl) (by kernel_rfl)) ?_
  intro W base args ds gs before hval0 hW hcnd _
  have hval : ∀ (j : Nat) t v, Try.f6.params[j]? = some t → args[j]? = some v → Value.okWide Try.prog W .any base t v := hval0
  have hW' := hW
  obtain ⟨p, q, hA0, hV, rfl, hfz, hnd⟩ := hW
  have hA : DataW.TrodAll enc Try.prog W 0 (fun _ => true) true Try.f6.params.toList args.toList ds p := hA0
  rw [Try.params6] at hA hval
  obtain ⟨v0, vs0, d0, ds0, p0, q0, hargs, rfl, rfl, h0, r0⟩ := trodAll_cons hA
  obtain ⟨v1, vs1, d1, ds1, p1, q1, rfl, rfl, rfl, h1, r1⟩ := trodAll_cons r0
  obtain ⟨v2, vs2, d2, ds2, p2, q2, rfl, rfl, rfl, h2, r2⟩ := trodAll_cons r1
  obtain ⟨rfl, rfl, rfl⟩ := trodAll_nil r2
  obtain rfl : args = #[v0, v1, v2] := by cases args; simp_all
  obtain ⟨rfl, rfl⟩ := trodVars_none hV
  obtain ⟨s0, rfl, rfl, rfl, ws0⟩ := open_string Try.underlying9 (hval 0 9 v0 rfl rfl) h0
  obtain ⟨s1, rfl, rfl, rfl, ws1⟩ := open_string Try.underlying9 (hval 1 9 v1 rfl rfl) h1
  obtain ⟨s2, rfl, rfl, rfl, ws2⟩ := open_string Try.underlying9 (hval 2 9 v2 rfl rfl) h2
  clear hA0 hval0 hA
  refine (rexStars_walk s0 s1 s2 W).mono fun e W' ⟨he, hg⟩ => ?_
  subst he
  exact ⟨_, rfl, law_end laidOut (by kernel_rfl) (by kernel_rfl) Try.underlying4 rfl hW' ⟨rfl, rfl, rfl⟩ hg⟩

theorem rexStars_holds : Rows.RexStarsSaid :=
  OpenClaim.holds_of_wide 6 Try.f6 rfl rfl rfl rfl rfl rfl rfl ⟨rfl, rfl, rfl, rfl, rfl⟩ rfl rfl rfl rfl rfl (by kernel_rfl) Try.func6 (by kernel_rfl)
    (of_decide_eq_true (by kernel_rfl)) (by unfold Func.isWrapper; first | (rw [if_pos (by decide +kernel)]; kernel_rfl) | (rw [if_neg (by decide +kernel)]; exact ⟨rfl, rfl⟩))
    (fun os started H enc _ => rexStars_lifted os started H enc)
#print axioms rexStars_holds

end Go.Proofs.Ytdihaabjmlhemaa
