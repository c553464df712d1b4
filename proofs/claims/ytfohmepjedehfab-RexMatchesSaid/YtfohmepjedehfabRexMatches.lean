/-
  RexMatches (P6.2): which texts any pattern matches is the plain answers'. No condition.
-/
import Derived.ChangeMaps5
import Derived.Test.YtfohmepjedehfabOtx
import Derived.Test.YtfohmepjedehfabRl6
import Derived.Test.YtfohmepjedehfabRt3
import Derived.Test.YtfohmepjedehfabPzq
namespace Go.Proofs.Ytfohmepjedehfab
set_option linter.unusedVariables false
set_option linter.unusedSimpArgs false
open Go.ChangeShapes Go.WideShapes Go.ChangeAt Go.RowKit Go.ChangeMaps

section
set_option maxHeartbeats 3200000
set_option maxRecDepth 100000
theorem rexMatches_walk (p : ByteArray) (A : Option Addr) (c : Nat) (ts : List ByteArray) (w : World) (hx : Rd w A (ts.map Value.string)) (hl : ts.length ≤ c ∧ c ≤ 9223372036854775807) (hz : ∀ x ∈ ts, x.size ≤ 9223372036854775807) :
    Calls Try.prog 6 #[.string p, .slice A ts.length c] w fun e w' => e = .returned (.bool true) ∧ RowKit.Below w.heap.size w w' := by
  have HX := Lib.hid hx; have HZ := Lib.hid hz; clear hx hz
  have HLV := Lib.hid live_any
  by_cases h20 : ts.length ≤ 20
  · have h20' : ¬ (20 : Int) < (ts.length : Int) := by omega
    have HPA := Lib.hid (fun W => parse_any p W)
    have HRP := Lib.hid (fun W => rparse_any p W)
    cases hr : rxP (bl p) with
    | error f =>
      rw [hr] at HPA HRP
      clear hr
      unfold PaOut RpOut at *
      have fe : (((f.1 : Nat) : Int) == ((f.1 : Nat) : Int)) = true := by simp
      generalize ((f.1 : Nat) : Int) = fi at fe HPA HRP
      go_enter Try.func6, Try.ntmps6
      go_wp2_with fail
      refine (HLV.out _).mono ?_
      rintro e w1 ⟨rfl, hb1⟩
      go_wp2_with fail
      refine (HPA.out _).mono ?_
      rintro e w2 ⟨rfl, hb2⟩
      go_wp2_with fail
      refine (HRP.out _).mono ?_
      rintro e w3 ⟨rfl, hb3⟩
      have HB := Lib.hid ((hb1.trans (hb2.mono hb1.size)).trans (hb3.mono (Nat.le_trans hb1.size hb2.size)))
      clear hb1 hb2 hb3
      go_wp2
      go_ret
      exact ⟨rfl, HB.out⟩
    | ok t =>
      rw [hr] at HPA HRP
      clear hr
      unfold PaOut RpOut at *
      go_enter Try.func6, Try.ntmps6
      go_wp2_with fail
      refine (HLV.out _).mono ?_
      rintro e w1 ⟨rfl, hb1⟩
      go_wp2_with fail
      refine (HPA.out _).mono ?_
      rintro e w2 ⟨b, rfl, hb, hI, hb2⟩
      have HI := Lib.hid hI; clear hI
      go_wp2_with fail
      refine (HRP.out _).mono ?_
      rintro e w3 ⟨q, rfl, hq, hJ, hb3⟩
      have HB := Lib.hid ((hb1.trans (hb2.mono hb1.size)).trans (hb3.mono (Nat.le_trans hb1.size hb2.size)))
      have HI3 := Lib.hid (HI.out.below hb3); have HJ := Lib.hid hJ
      clear hb1 hb2 hb3 hJ HI hb hq
      go_wp2_with fail
      go_loopw [57] (fun s57 wr => ∃ k : Nat, s57 = .int .i64 k ∧ k ≤ ts.length ∧ Aside (RowKit.Below w3.heap.size w3 wr)) (fun s57 _ => ts.length - (intOf s57).toNat)
      case atStart => exact ⟨0, rfl, by omega, (show Aside _ from RowKit.Below.refl _ _)⟩
      case round =>
        obtain ⟨k, rfl, hk, BW⟩ := hrel
        have k0 : (0 : Int) ≤ (k : Int) := by omega
        by_cases hlt : k < ts.length
        · have k1 : (k : Int) < (ts.length : Int) := by omega
          obtain ⟨b', off, rfl, c0⟩ := str_at (HX.out.below (HB.out.trans (BW.out.mono HB.out.size))) hlt
          generalize ts[k] = s at c0
          by_cases hs : s.size ≤ 60
          · have hs' : ¬ (60 : Int) < (s.size : Int) := by omega
            have hm1 := match_any b p t s wr (HI3.out.below BW.out)
            have HM2 := Lib.hid (fun (W : World) (hb : RowKit.Below wr.heap.size wr W) => rmatch_any q t s W ((HJ.out.below BW.out).below hb) hs)
            generalize matchP (compP t []).1 (compP t []).2 (runesB (bl s)) = res at hm1 HM2
            have HM1 := Lib.hid hm1; have HBW := Lib.hid BW.out
            have hrr : (res == res) = true := by simp
            clear hm1 BW
            go_wp2_with fail
            refine HM1.out.mono ?_
            rintro e w5 ⟨rfl, hb5⟩
            go_wp2_with fail
            refine (HM2.out w5 hb5).mono ?_
            rintro e w6 ⟨rfl, hb6⟩
            have HB6 := Lib.hid (HBW.out.trans ((hb5.trans (hb6.mono hb5.size)).mono HBW.out.size))
            clear hb5 hb6
            cases res
            all_goals
              go_wp2_with fail
              go_roundw
              case rel => exact ⟨k + 1, by go_num, by omega, (show Aside _ from HB6.out)⟩
              case measure => simp [intOf]; omega
          · have hs' : (60 : Int) < (s.size : Int) := by omega
            have HBW := Lib.hid (HB.out.trans (BW.out.mono HB.out.size)); clear BW
            go_wp2
            go_ret
            exact ⟨rfl, HBW.out⟩
        · obtain rfl : k = ts.length := by omega
          have HBW := Lib.hid (HB.out.trans (BW.out.mono HB.out.size)); clear BW
          go_wp2
          go_ret
          exact ⟨rfl, HBW.out⟩
  · have h20' : (20 : Int) < (ts.length : Int) := by omega
    go_enter Try.func6, Try.ntmps6
    go_wp2_with fail
    refine (HLV.out _).mono ?_
    rintro e w1 ⟨rfl, hb1⟩
    go_wp2_with fail
    refine (HLV.out _).mono ?_
    rintro e w2 ⟨rfl, hb2⟩
    go_wp2
    go_ret
    exact ⟨rfl, hb1.trans (hb2.mono hb1.size)⟩
end

set_option maxRecDepth 100000 in
theorem rexMatches_lifted (os : Os) (started : os.Started) (H : Type) (enc : TypeId × Value → H) :
    ReturnsInHanded {} Try.checked os 6 .any (Rows.rexMatchesSpec.pre6 enc Try.prog Try.f6 Rows.rexMatchesRow.domain false) (Rows.rexMatchesSpec.post enc Try.prog Try.f6 false true false false) := by
  refine returnsInHanded_of_change (C := Try.checked) ownKn started (by kernel_rfl) Try.func6
    (ChangeSpec.witness6 (enc := enc) (C := Try.checked) false ⟨#[], #[.string ⟨#[]⟩, .slice none 0 0], []⟩ 8 (by kernel_rfl) (by kernel_rfl) (by kernel_rfl) (by kernel_rfl)) ?_
  intro W base args ds gs before hval0 hW hcnd _
  have hval : ∀ (j : Nat) t v, Try.f6.params[j]? = some t → args[j]? = some v → Value.okWide Try.prog W .any base t v := hval0
  have hW' := hW
  obtain ⟨p, q, hA0, hV, rfl, hfz, hnd⟩ := hW
  have hA : DataW.TrodAll enc Try.prog W 0 (fun _ => true) true Try.f6.params.toList args.toList ds p := hA0
  rw [Try.params6] at hA hval
  obtain ⟨v0, vs0, d0, ds0, p0, q0, hargs, rfl, rfl, h0, r0⟩ := trodAll_cons hA
  obtain ⟨v1, vs1, d1, ds1, p1, q1, rfl, rfl, rfl, h1, r1⟩ := trodAll_cons r0
  obtain ⟨rfl, rfl, rfl⟩ := trodAll_nil r1
  obtain rfl : args = #[v0, v1] := by cases args; simp_all
  obtain ⟨rfl, rfl⟩ := trodVars_none hV
  obtain ⟨s0, rfl, rfl, rfl, ws0⟩ := open_string Try.underlying9 (hval 0 9 v0 rfl rfl) h0
  obtain ⟨A1, c1, t1, rfl, hm1, hx1, hs1⟩ := open_strs (hval 1 47 v1 rfl rfl) h1
  clear hA0 hval0 hA
  unfold maxLen at hm1 hs1
  refine (rexMatches_walk s0 A1 c1 t1 W hx1 hm1 hs1).mono fun e W' ⟨he, hg⟩ => ?_
  subst he
  exact ⟨_, rfl, law_end laidOut (by kernel_rfl) (by kernel_rfl) Try.underlying4 rfl hW' ⟨rfl, rfl, rfl⟩ hg⟩

theorem rexMatches_holds : Rows.RexMatchesSaid :=
  OpenClaim.holds_of_wide 6 Try.f6 rfl rfl rfl rfl rfl rfl rfl ⟨rfl, rfl, rfl, rfl, rfl⟩ rfl rfl rfl rfl rfl (by kernel_rfl) Try.func6 (by kernel_rfl)
    (of_decide_eq_true (by kernel_rfl)) (by unfold Func.isWrapper; first | (rw [if_pos (by decide +kernel)]; kernel_rfl) | (rw [if_neg (by decide +kernel)]; exact ⟨rfl, rfl⟩))
    (fun os started H enc _ => rexMatches_lifted os started H enc)
#print axioms rexMatches_holds

end Go.Proofs.Ytfohmepjedehfab
