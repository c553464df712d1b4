/-
  RexQuotes (P6.4, P6.5): a text as it is in a pattern is what the plain answers say, and the pattern matches that text alone. No condition.
-/
import Derived.Test.YtdihaabjmlhemaaLaw
import Derived.Test.YtdihaabjmlhemaaRl6
import Derived.Test.YtdihaabjmlhemaaRzb
import Derived.Test.YtdihaabjmlhemaaRee
import Derived.ChangeMaps5
namespace Go.Proofs.Ytdihaabjmlhemaa
set_option linter.unusedVariables false
set_option linter.unusedSimpArgs false
open Go.ChangeShapes Go.WideShapes Go.ChangeAt Go.RowKit Go.ChangeMaps

section
set_option maxHeartbeats 1600000
set_option maxRecDepth 100000

theorem quote_rx (s : ByteArray) : rxP (encs (quoteC (runesB (bl s)))) = if 256 < (encs (quoteC (runesB (bl s)))).length then .error (0, 3) else .ok (catC .none (runesB (bl s))) := by
  unfold rxP
  rw [quote_whole _ (runes_okRune (bl s))]
theorem quote_is (cs w : List Int) : matchP (compP (catC .none cs) []).1 (compP (catC .none cs) []).2 w = decide (w = cs) := by
  have h := match_iff (catC .none cs) w
  rw [quote_match] at h
  by_cases e : w = cs
  · rw [decide_eq_true e]; exact h.mpr e
  · rw [decide_eq_false e]
    cases hm : matchP (compP (catC .none cs) []).1 (compP (catC .none cs) []).2 w with
    | false => rfl
    | true => exact absurd (h.mp hm) e
theorem valid_runes {s t : ByteArray} (hs : validB s = true) (ht : validB t = true) : decide (runesB (bl t) = runesB (bl s)) = (s.toList == t.toList) := by
  rw [toList_bl, toList_bl]
  by_cases e : bl s = bl t
  · rw [e, beq_self_eq_true, decide_eq_true rfl]
  · have : ¬ runesB (bl t) = runesB (bl s) := fun h => e (by rw [← encs_runes _ hs, ← encs_runes _ ht, h])
    rw [decide_eq_false this, eq_comm, beq_eq_false_iff_ne]; exact e
theorem rexQuotes_walk (s t : ByteArray) (w : World) : Calls Try.prog 4 #[.string s, .string t] w fun e w' => e = .returned (.bool true) ∧ Below w.heap.size w w' := by
  have HL := Lib.hid (live_any w)
  by_cases h1 : 500 < s.size
  · have d1 : decide ((500 : Int) < (s.size : Int)) = true := by simp; omega
    have g1 : (500 : Int) < (s.size : Int) := by omega
    go_enter Try.func4, Try.ntmps4
    go_wp2_with fail
    refine HL.out.mono ?_
    rintro e w1 ⟨rfl, hb1⟩
    have HB1 := Lib.hid hb1; have HL2 := Lib.hid (live_any w1); clear hb1
    go_wp2_with fail
    refine HL2.out.mono ?_
    rintro e w2 ⟨rfl, hb2⟩
    go_wp2
    go_ret
    exact ⟨rfl, HB1.out.trans (hb2.mono HB1.out.size)⟩
  have d1 : decide ((500 : Int) < (s.size : Int)) = false := by simp; omega
  have g1 : ¬ (500 : Int) < (s.size : Int) := by omega
  by_cases h2 : 500 < t.size
  · have d2 : decide ((500 : Int) < (t.size : Int)) = true := by simp; omega
    have g2 : (500 : Int) < (t.size : Int) := by omega
    go_enter Try.func4, Try.ntmps4
    go_wp2_with fail
    refine HL.out.mono ?_
    rintro e w1 ⟨rfl, hb1⟩
    have HB1 := Lib.hid hb1; have HL2 := Lib.hid (live_any w1); clear hb1
    go_wp2_with fail
    refine HL2.out.mono ?_
    rintro e w2 ⟨rfl, hb2⟩
    go_wp2
    go_ret
    exact ⟨rfl, HB1.out.trans (hb2.mono HB1.out.size)⟩
  have d2 : decide ((500 : Int) < (t.size : Int)) = false := by simp; omega
  have g2 : ¬ (500 : Int) < (t.size : Int) := by omega
  have HQ := Lib.hid (fun W => rexquote_any s W (by omega))
  have HRQ := Lib.hid (fun W => rquote_any s W (by omega))
  have HV1 := Lib.hid (fun W => rvalid_any s W (by omega))
  have HV2 := Lib.hid (fun W => rvalid_any t W (by omega))
  have hrx := quote_rx s
  obtain ⟨cs, hcs⟩ : ∃ cs, runesB (bl s) = cs := ⟨_, rfl⟩
  rw [hcs] at HQ HRQ hrx
  obtain ⟨Q, hQ⟩ : ∃ Q, encs (quoteC cs) = Q := ⟨_, rfl⟩
  rw [hQ] at HQ HRQ hrx
  have hqq : ((mkB Q).toList == (mkB Q).toList) = true := beq_self_eq_true _
  have hP := fun W => parse_any (mkB Q) W
  rw [bl_mk] at hP
  have hql : (mkB Q).size = Q.length := by rw [← bl_len, bl_mk]
  have HMS := Lib.hid (fun (b : Nat) (W : World) (h : RexIs W b (mkB Q) (catC .none cs)) => match_any b (mkB Q) _ s W h)
  have HMT := Lib.hid (fun (b : Nat) (W : World) (h : RexIs W b (mkB Q) (catC .none cs)) => match_any b (mkB Q) _ t W h)
  rw [hcs, quote_is, decide_eq_true rfl] at HMS
  rw [quote_is] at HMT
  have HVR := Lib.hid (fun hs ht => valid_runes (s := s) (t := t) hs ht)
  rw [hcs] at HVR
  by_cases hlen : 256 < Q.length
  · rw [if_pos hlen] at hrx
    rw [hrx] at hP
    have d3 : (256 : Int) < ((mkB Q).size : Int) := by omega
    have HP := Lib.hid hP
    clear hP hcs hQ hrx hlen hql HMS HMT HVR HV1 HV2
    generalize mkB Q = q at *
    go_enter Try.func4, Try.ntmps4
    go_wp2_with fail
    refine HL.out.mono ?_
    rintro e w1 ⟨rfl, hb1⟩
    have HB1 := Lib.hid hb1; clear hb1
    go_wp2_with fail
    refine (HQ.out _).mono ?_
    rintro e w2 ⟨rfl, hb2⟩
    have HB2 := Lib.hid (HB1.out.trans (hb2.mono HB1.out.size)); clear hb2
    go_wp2_with fail
    refine (HRQ.out _).mono ?_
    rintro e w3 ⟨rfl, hb3⟩
    have HB3 := Lib.hid (HB2.out.trans (hb3.mono HB2.out.size)); clear hb3
    go_wp2_with fail
    refine (HP.out _).mono ?_
    rintro e w4 ⟨rfl, hb4⟩
    have HB4 := Lib.hid (HB3.out.trans (hb4.mono HB3.out.size)); clear hb4
    go_wp2
    go_ret
    exact ⟨rfl, HB4.out⟩
  · rw [if_neg hlen] at hrx
    rw [hrx] at hP
    have d3 : ¬ (256 : Int) < ((mkB Q).size : Int) := by omega
    have HP := Lib.hid hP
    clear hP hcs hQ hrx hlen hql
    generalize mkB Q = q at *
    obtain ⟨v1, hv1⟩ : ∃ v1, validB s = v1 := ⟨_, rfl⟩
    obtain ⟨v2, hv2⟩ : ∃ v2, validB t = v2 := ⟨_, rfl⟩
    rw [hv1] at HV1 HVR
    rw [hv2] at HV2 HVR
    clear hv1 hv2
    obtain ⟨bt, hbt⟩ : ∃ bt, decide (runesB (bl t) = cs) = bt := ⟨_, rfl⟩
    rw [hbt] at HMT HVR
    clear hbt
    go_enter Try.func4, Try.ntmps4
    go_wp2_with fail
    refine HL.out.mono ?_
    rintro e w1 ⟨rfl, hb1⟩
    have HB1 := Lib.hid hb1; clear hb1
    go_wp2_with fail
    refine (HQ.out _).mono ?_
    rintro e w2 ⟨rfl, hb2⟩
    have HB2 := Lib.hid (HB1.out.trans (hb2.mono HB1.out.size)); clear hb2
    go_wp2_with fail
    refine (HRQ.out _).mono ?_
    rintro e w3 ⟨rfl, hb3⟩
    have HB3 := Lib.hid (HB2.out.trans (hb3.mono HB2.out.size)); clear hb3
    go_wp2_with fail
    refine (HP.out _).mono ?_
    rintro e w4 ⟨b, rfl, -, hr4, hb4⟩
    have HB4 := Lib.hid (HB3.out.trans (hb4.mono HB3.out.size)); have HR4 := Lib.hid hr4; clear hb4 hr4
    have HM4 := Lib.hid (HMS.out b w4 HR4.out)
    go_wp2_with fail
    refine HM4.out.mono ?_
    rintro e w5 ⟨rfl, hb5⟩
    have HB5 := Lib.hid (HB4.out.trans (hb5.mono HB4.out.size)); have HR5 := Lib.hid (HR4.out.below hb5); clear hb5
    go_wp2_with fail
    refine (HV1.out _).mono ?_
    rintro e w6 ⟨rfl, hb6⟩
    have HB6 := Lib.hid (HB5.out.trans (hb6.mono HB5.out.size)); have HR6 := Lib.hid (HR5.out.below hb6); clear hb6
    cases v1 with
    | false =>
      go_wp2
      go_ret
      exact ⟨rfl, HB6.out⟩
    | true =>
      go_wp2_with fail
      refine (HV2.out _).mono ?_
      rintro e w7 ⟨rfl, hb7⟩
      have HB7 := Lib.hid (HB6.out.trans (hb7.mono HB6.out.size)); have HR7 := Lib.hid (HR6.out.below hb7); clear hb7
      cases v2 with
      | false =>
        go_wp2
        go_ret
        exact ⟨rfl, HB7.out⟩
      | true =>
        have hst := (HVR.out (by trivial) (by trivial)).symm
        have HM7 := Lib.hid (HMT.out b w7 HR7.out)
        go_wp2_with fail
        refine HM7.out.mono ?_
        rintro e w8 ⟨rfl, hb8⟩
        have HB8 := Lib.hid (HB7.out.trans (hb8.mono HB7.out.size)); clear hb8
        cases bt with
        | false =>
          go_wp2
          go_ret
          exact ⟨rfl, HB8.out⟩
        | true =>
          go_wp2
          go_ret
          exact ⟨rfl, HB8.out⟩
end

set_option maxRecDepth 100000 in
theorem rexQuotes_lifted (os : Os) (started : os.Started) (H : Type) (enc : TypeId × Value → H) :
    ReturnsInHanded {} Try.checked os 4 .any (Rows.rexQuotesSpec.pre6 enc Try.prog Try.f4 Rows.rexQuotesRow.domain false) (Rows.rexQuotesSpec.post enc Try.prog Try.f4 false true false false) := by
  refine returnsInHanded_of_change (C := Try.checked) ownKn started (by kernel_rfl) Try.func4
    (ChangeSpec.witness6 (enc := enc) (C := Try.checked) false ⟨#[], #[.string ⟨#[]⟩, .string ⟨#[]⟩], []⟩ 8 (by kernel_rfl) (by kernel_rfl) (by kernel_rfl) (by kernel_rfl)) ?_
  intro W base args ds gs before hval0 hW hcnd _
  have hval : ∀ (j : Nat) t v, Try.f4.params[j]? = some t → args[j]? = some v → Value.okWide Try.prog W .any base t v := hval0
  have hW' := hW
  obtain ⟨p, q, hA0, hV, rfl, hfz, hnd⟩ := hW
  have hA : DataW.TrodAll enc Try.prog W 0 (fun _ => true) true Try.f4.params.toList args.toList ds p := hA0
  rw [Try.params4] at hA hval
  obtain ⟨v0, vs0, d0, ds0, p0, q0, hargs, rfl, rfl, h0, r0⟩ := trodAll_cons hA
  obtain ⟨v1, vs1, d1, ds1, p1, q1, rfl, rfl, rfl, h1, r1⟩ := trodAll_cons r0
  obtain ⟨rfl, rfl, rfl⟩ := trodAll_nil r1
  obtain rfl : args = #[v0, v1] := by cases args; simp_all
  obtain ⟨rfl, rfl⟩ := trodVars_none hV
  obtain ⟨s0, rfl, rfl, rfl, ws0⟩ := open_string Try.underlying9 (hval 0 9 v0 rfl rfl) h0
  obtain ⟨s1, rfl, rfl, rfl, ws1⟩ := open_string Try.underlying9 (hval 1 9 v1 rfl rfl) h1
  clear hA0 hval0 hA
  refine (rexQuotes_walk s0 s1 W).mono fun e W' ⟨he, hg⟩ => ?_
  subst he
  exact ⟨_, rfl, law_end laidOut (by kernel_rfl) (by kernel_rfl) Try.underlying4 rfl hW' ⟨rfl, rfl, rfl⟩ hg⟩

theorem rexQuotes_holds : Rows.RexQuotesSaid :=
  OpenClaim.holds_of_wide 4 Try.f4 rfl rfl rfl rfl rfl rfl rfl ⟨rfl, rfl, rfl, rfl, rfl⟩ rfl rfl rfl rfl rfl (by kernel_rfl) Try.func4 (by kernel_rfl)
    (of_decide_eq_true (by kernel_rfl)) (by unfold Func.isWrapper; first | (rw [if_pos (by decide +kernel)]; kernel_rfl) | (rw [if_neg (by decide +kernel)]; exact ⟨rfl, rfl⟩))
    (fun os started H enc _ => rexQuotes_lifted os started H enc)
#print axioms rexQuotes_holds

end Go.Proofs.Ytdihaabjmlhemaa
