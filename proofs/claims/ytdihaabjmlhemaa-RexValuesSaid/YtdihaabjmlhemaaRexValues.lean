/-
  RexValues (P6.8): a pattern that has values matches just these. No condition.
-/
import Derived.Test.YtdihaabjmlhemaaLaw
import Derived.Test.YtdihaabjmlhemaaRl6
import Derived.Test.YtdihaabjmlhemaaRzb
import Derived.Test.YtdihaabjmlhemaaRee
import Derived.ChangeMaps5
namespace Go.Proofs.Ytdihaabjmlhemaa
set_option linter.unusedVariables false
set_option linter.unusedSimpArgs false
open Go.ChangeShapes Go.WideShapes Go.ChangeAt Go.RowKit Go.ChangeMaps

section
set_option maxHeartbeats 1600000
set_option maxRecDepth 100000

def inV (vs : List Bs) (s : ByteArray) : Bool := vs.any fun v => v == bl s
theorem inV_take {vs : List Bs} {k : Nat} (s : ByteArray) (h : k < vs.length) : inV (vs.take (k + 1)) s = (inV (vs.take k) s || ((mkB vs[k]).toList == s.toList)) := by
  unfold inV
  rw [List.take_succ_eq_append_getElem h, List.any_append, toList_bl, toList_bl, bl_mk]
  simp
theorem val_in {p : ByteArray} {r : Re} {vs : List Bs} {s : ByteArray} (e : rxP (bl p) = .ok r) (hv : valP (runesB (bl p)) = some vs) (hs : validB s = true) :
    0 < vs.length ∧ (∀ (k : Nat) (h : k < vs.length), matchP (compP r []).1 (compP r []).2 (runesB vs[k]) = true) ∧ matchP (compP r []).1 (compP r []).2 (runesB (bl s)) = inV vs s := by
  unfold rxP at e
  split at e
  · cases e
  · obtain ⟨h1, h2, h3⟩ := val_whole e hv
    refine ⟨List.length_pos_iff.2 h1, fun k h => (match_iff r _).mpr (h2 _ (List.getElem_mem h)), ?_⟩
    have h4 := (match_iff r (runesB (bl s))).trans (h3 (bl s) hs)
    unfold inV
    by_cases hm : bl s ∈ vs
    · rw [h4.mpr hm, eq_comm, List.any_eq_true]; exact ⟨_, hm, beq_self_eq_true _⟩
    · have : matchP (compP r []).1 (compP r []).2 (runesB (bl s)) = false := by
        cases h : matchP (compP r []).1 (compP r []).2 (runesB (bl s)) with
        | false => rfl
        | true => exact absurd (h4.mp h) hm
      rw [this, eq_comm, List.any_eq_false]
      intro x hx
      rw [beq_iff_eq]
      rintro rfl
      exact hm hx
theorem rexValues_walk (p s : ByteArray) (w : World) : Calls Try.prog 7 #[.string p, .string s] w fun e w' => e = .returned (.bool true) ∧ Below w.heap.size w w' := by
  have HL := Lib.hid (live_any w)
  by_cases h1 : 256 < p.size
  · have d1 : decide ((256 : Int) < (p.size : Int)) = true := by simp; omega
    have g1 : (256 : Int) < (p.size : Int) := by omega
    go_enter Try.func7, Try.ntmps7
    go_wp2_with fail
    refine HL.out.mono ?_
    rintro e w1 ⟨rfl, hb1⟩
    have HB1 := Lib.hid hb1; have HL2 := Lib.hid (live_any w1); clear hb1
    go_wp2_with fail
    refine HL2.out.mono ?_
    rintro e w2 ⟨rfl, hb2⟩
    go_wp2
    go_ret
    exact ⟨rfl, HB1.out.trans (hb2.mono HB1.out.size)⟩
  have d1 : decide ((256 : Int) < (p.size : Int)) = false := by simp; omega
  have g1 : ¬ (256 : Int) < (p.size : Int) := by omega
  by_cases h2 : 300 < s.size
  · have d2 : decide ((300 : Int) < (s.size : Int)) = true := by simp; omega
    have g2 : (300 : Int) < (s.size : Int) := by omega
    go_enter Try.func7, Try.ntmps7
    go_wp2_with fail
    refine HL.out.mono ?_
    rintro e w1 ⟨rfl, hb1⟩
    have HB1 := Lib.hid hb1; have HL2 := Lib.hid (live_any w1); clear hb1
    go_wp2_with fail
    refine HL2.out.mono ?_
    rintro e w2 ⟨rfl, hb2⟩
    go_wp2
    go_ret
    exact ⟨rfl, HB1.out.trans (hb2.mono HB1.out.size)⟩
  have d2 : decide ((300 : Int) < (s.size : Int)) = false := by simp; omega
  have g2 : ¬ (300 : Int) < (s.size : Int) := by omega
  have HV := Lib.hid (fun W => rvalid_any s W (by omega))
  cases hvs : validB s with
  | false =>
    rw [hvs] at HV
    clear hvs
    go_enter Try.func7, Try.ntmps7
    go_wp2_with fail
    refine HL.out.mono ?_
    rintro e w1 ⟨rfl, hb1⟩
    have HB1 := Lib.hid hb1; clear hb1
    go_wp2_with fail
    refine (HV.out _).mono ?_
    rintro e w2 ⟨rfl, hb2⟩
    have HB2 := Lib.hid (HB1.out.trans (hb2.mono HB1.out.size)); have HL2 := Lib.hid (live_any w2); clear hb2
    go_wp2_with fail
    refine HL2.out.mono ?_
    rintro e w3 ⟨rfl, hb3⟩
    go_wp2
    go_ret
    exact ⟨rfl, HB2.out.trans (hb3.mono HB2.out.size)⟩
  | true =>
    rw [hvs] at HV
    have hp := fun W => parse_any p W
    have HVA := Lib.hid (fun (b : Nat) (r : Re) (W : World) (h : RexIs W b p r) => values_any b p W h.parts.1 h.parts.2.1 (by omega))
    have hvi := fun r vs e hv => val_in (p := p) (r := r) (vs := vs) (s := s) e hv hvs
    obtain ⟨R, hR⟩ : ∃ R, rxP (bl p) = R := ⟨_, rfl⟩
    rw [hR] at hp hvi
    have hec : ∀ f, R = .error f → f.2 ≠ 0 := fun f e => by
      rw [← hR] at e; unfold rxP at e
      split at e
      · injection e with e; subst e; decide
      · have := wholeP_ec (places_ok (bl p) 0) e
        unfold Ec at this; omega
    have HP := Lib.hid hp; have HVI := Lib.hid hvi
    clear hp hvi hvs hR
    go_enter Try.func7, Try.ntmps7
    go_wp2_with fail
    refine HL.out.mono ?_
    rintro e w1 ⟨rfl, hb1⟩
    have HB1 := Lib.hid hb1; clear hb1
    go_wp2_with fail
    refine (HV.out _).mono ?_
    rintro e w2 ⟨rfl, hb2⟩
    have HB2 := Lib.hid (HB1.out.trans (hb2.mono HB1.out.size)); clear hb2
    go_wp2_with fail
    refine (HP.out _).mono ?_
    intro e w3 ho
    cases R with
    | error f =>
      obtain ⟨rfl, hb3⟩ := ho
      have HB3 := Lib.hid (HB2.out.trans (hb3.mono HB2.out.size)); clear hb3
      have hf := hec f rfl
      have f1 : ((f.2 : Int) == 0) = false := by rw [beq_eq_false_iff_ne]; omega
      have f2 : ((f.2 : Int) != 0) = true := by rw [bne_iff_ne]; omega
      go_wp2
      go_ret
      exact ⟨rfl, HB3.out⟩
    | ok t =>
      obtain ⟨b, rfl, -, hr3, hb3⟩ := ho
      have HB3 := Lib.hid (HB2.out.trans (hb3.mono HB2.out.size)); have HR3 := Lib.hid hr3; clear hb3 hr3
      have hva := HVA.out b t w3 HR3.out
      obtain ⟨V, hV⟩ : ∃ V, valP (runesB (bl p)) = V := ⟨_, rfl⟩
      rw [hV] at hva
      have HVV := Lib.hid hva; have HVE := Lib.hid hV; clear hva hV
      clear hec
      go_wp2_with fail
      refine HVV.out.mono ?_
      intro e w4 ho
      cases V with
      | none =>
        obtain ⟨rfl, hb4⟩ := ho
        have HB4 := Lib.hid (HB3.out.trans (hb4.mono HB3.out.size)); clear hb4
        go_wp2
        go_loopw [56] (fun sk wr => sk = .int .i64 0 ∧ wr = w4) (fun _ _ => 0)
        case atStart => exact ⟨rfl, rfl⟩
        case round =>
          obtain ⟨rfl, rfl⟩ := hrel
          go_wp2
          go_ret
          exact ⟨rfl, HB4.out⟩
      | some vs =>
        obtain ⟨v4, rfl, ho4, hb4⟩ := ho
        obtain ⟨A, c, rfl, hrd, hn1, hn2⟩ := own_rdg ho4
        have HB4 := Lib.hid (HB3.out.trans (hb4.mono HB3.out.size)); have HR4 := Lib.hid (HR3.out.below hb4)
        obtain ⟨hp1, hp2, hp3⟩ := HVI.out t vs rfl HVE.out
        have HP2 := Lib.hid hp2; have HP3 := Lib.hid hp3
        have HRD := Lib.hid hrd
        unfold maxLen at hn2
        clear hb4 ho4 hrd hp2 hp3 HVI HVE
        go_wp2
        go_loopw [10, 56] (fun si sk wr => ∃ k : Nat, sk = .int .i64 k ∧ si = .bool (inV (vs.take k) s) ∧ k ≤ vs.length ∧ Aside (RowKit.Below w4.heap.size w4 wr)) (fun _ sk _ => vs.length - (intOf sk).toNat)
        case atStart => exact ⟨0, rfl, rfl, by omega, RowKit.Below.refl _ _⟩
        case round =>
          obtain ⟨k, rfl, rfl, hk, BW⟩ := hrel
          have k0 : (0 : Int) ≤ (k : Int) := by omega
          by_cases hlt : k < vs.length
          · have k1 : (k : Int) < (vs.length : Int) := by omega
            obtain ⟨b', off, rfl, c0⟩ := (HRD.out.below BW.out) k (.string (mkB vs[k])) (by unfold stC; rw [List.getElem?_map, List.getElem?_eq_getElem hlt]; rfl)
            have hin := inV_take s hlt
            have hm := match_any b p t (mkB vs[k]) wr (HR4.out.below BW.out)
            rw [bl_mk, HP2.out k hlt] at hm
            have HM := Lib.hid hm; clear hm
            have HIN := Lib.hid hin; clear hin
            generalize mkB vs[k] = vk at *
            cases hb1 : inV (vs.take k) s with
            | true =>
              rw [hb1, Bool.true_or] at HIN
              clear hb1
              go_wp2_with fail
              refine HM.out.mono ?_
              rintro e w5 ⟨rfl, hb5⟩
              have HB5 := Lib.hid (BW.out.trans (hb5.mono BW.out.size)); clear hb5
              go_wp2
              go_roundw
              case rel => exact ⟨k + 1, by go_num, by rw [HIN.out], by omega, HB5.out⟩
              case measure => simp [intOf]; omega
            | false =>
              rw [hb1, Bool.false_or] at HIN
              clear hb1
              cases hb2 : (vk.toList == s.toList) with
              | true =>
                rw [hb2] at HIN
                go_wp2_with fail
                refine HM.out.mono ?_
                rintro e w5 ⟨rfl, hb5⟩
                have HB5 := Lib.hid (BW.out.trans (hb5.mono BW.out.size)); clear hb5
                go_wp2
                go_roundw
                case rel => exact ⟨k + 1, by go_num, by rw [HIN.out], by omega, HB5.out⟩
                case measure => simp [intOf]; omega
              | false =>
                rw [hb2] at HIN
                go_wp2_with fail
                refine HM.out.mono ?_
                rintro e w5 ⟨rfl, hb5⟩
                have HB5 := Lib.hid (BW.out.trans (hb5.mono BW.out.size)); clear hb5
                go_wp2
                go_roundw
                case rel => exact ⟨k + 1, by go_num, by rw [HIN.out], by omega, HB5.out⟩
                case measure => simp [intOf]; omega
          · obtain rfl : k = vs.length := by omega
            have hm := match_any b p t s wr (HR4.out.below BW.out)
            rw [HP3.out] at hm
            have hz : ((vs.length : Int) == 0) = false := by rw [beq_eq_false_iff_ne]; omega
            have hz2 : (0 : Int) < (vs.length : Int) := by omega
            have hz3 : decide ((0 : Int) < (vs.length : Int)) = true := by simp; omega
            rw [List.take_length]
            have HB4b := Lib.hid (HB4.out.trans (BW.out.mono HB4.out.size))
            generalize inV vs s = x at hm ⊢
            have HM := Lib.hid hm; clear hm
            cases x with
            | true =>
              go_wp2_with fail
              refine HM.out.mono ?_
              rintro e w5 ⟨rfl, hb5⟩
              have HB5 := Lib.hid (HB4b.out.trans (hb5.mono HB4b.out.size)); clear hb5
              go_wp2
              go_ret
              exact ⟨rfl, HB5.out⟩
            | false =>
              go_wp2_with fail
              refine HM.out.mono ?_
              rintro e w5 ⟨rfl, hb5⟩
              have HB5 := Lib.hid (HB4b.out.trans (hb5.mono HB4b.out.size)); clear hb5
              go_wp2
              go_ret
              exact ⟨rfl, HB5.out⟩
end

set_option maxRecDepth 100000 in
theorem rexValues_lifted (os : Os) (started : os.Started) (H : Type) (enc : TypeId × Value → H) :
    ReturnsInHanded {} Try.checked os 7 .any (Rows.rexValuesSpec.pre6 enc Try.prog Try.f7 Rows.rexValuesRow.domain false) (Rows.rexValuesSpec.post enc Try.prog Try.f7 false true false false) := by
  refine returnsInHanded_of_change (C := Try.checked) ownKn started (by kernel_rfl) Try.func7
    (ChangeSpec.witness6 (enc := enc) (C := Try.checked) false ⟨#[], #[.string ⟨#[]⟩, .string ⟨#[]⟩], []⟩ 8 (by kernel_rfl) (by kernel_rfl) (by kernel_rfl) (by kernel_rfl)) ?_
  intro W base args ds gs before hval0 hW hcnd _
  have hval : ∀ (j : Nat) t v, Try.f7.params[j]? = some t → args[j]? = some v → Value.okWide Try.prog W .any base t v := hval0
  have hW' := hW
  obtain ⟨p, q, hA0, hV, rfl, hfz, hnd⟩ := hW
  have hA : DataW.TrodAll enc Try.prog W 0 (fun _ => true) true Try.f7.params.toList args.toList ds p := hA0
  rw [Try.params7] at hA hval
  obtain ⟨v0, vs0, d0, ds0, p0, q0, hargs, rfl, rfl, h0, r0⟩ := trodAll_cons hA
  obtain ⟨v1, vs1, d1, ds1, p1, q1, rfl, rfl, rfl, h1, r1⟩ := trodAll_cons r0
  obtain ⟨rfl, rfl, rfl⟩ := trodAll_nil r1
  obtain rfl : args = #[v0, v1] := by cases args; simp_all
  obtain ⟨rfl, rfl⟩ := trodVars_none hV
  obtain ⟨s0, rfl, rfl, rfl, ws0⟩ := open_string Try.underlying9 (hval 0 9 v0 rfl rfl) h0
  obtain ⟨s1, rfl, rfl, rfl, ws1⟩ := open_string Try.underlying9 (hval 1 9 v1 rfl rfl) h1
  clear hA0 hval0 hA
  refine (rexValues_walk s0 s1 W).mono fun e W' ⟨he, hg⟩ => ?_
  subst he
  exact ⟨_, rfl, law_end laidOut (by kernel_rfl) (by kernel_rfl) Try.underlying4 rfl hW' ⟨rfl, rfl, rfl⟩ hg⟩

theorem rexValues_holds : Rows.RexValuesSaid :=
  OpenClaim.holds_of_wide 7 Try.f7 rfl rfl rfl rfl rfl rfl rfl ⟨rfl, rfl, rfl, rfl, rfl⟩ rfl rfl rfl rfl rfl (by kernel_rfl) Try.func7 (by kernel_rfl)
    (of_decide_eq_true (by kernel_rfl)) (by unfold Func.isWrapper; first | (rw [if_pos (by decide +kernel)]; kernel_rfl) | (rw [if_neg (by decide +kernel)]; exact ⟨rfl, rfl⟩))
    (fun os started H enc _ => rexValues_lifted os started H enc)
#print axioms rexValues_holds

end Go.Proofs.Ytdihaabjmlhemaa
