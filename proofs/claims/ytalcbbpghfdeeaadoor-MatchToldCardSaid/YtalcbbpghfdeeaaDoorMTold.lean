/-
  MatchTold (P7.4): right matchers are got again of their text. The condition is the library's two tables': they hold what their initialisers lay, which the card ties to the program's text.
-/
import Derived.Test.YtalcbbpghfdeeaaDoorMlw
import Derived.Test.YtalcbbpghfdeeaaDoorRsm
namespace Go.Proofs.YtalcbbpghfdeeaaDoor
set_option linter.unusedVariables false
set_option linter.unusedSimpArgs false
open Go.ChangeMaps (open_string)
open Go.ChangeShapes Go.WideShapes Go.ChangeAt Go.RowKit
section
set_option maxHeartbeats 3200000
set_option maxRecDepth 100000
theorem print_size {l : List Mt'} (h : fewL l = true) : (printM l).length ≤ 50000 := by
  obtain ⟨h1, h2⟩ := fewL_of h
  have hone : ∀ m ∈ l, (oneT m).length ≤ 1000 := fun m hm => by
    obtain ⟨a, b⟩ := h2 m hm
    have hs := sign_len m.1
    have hq := quoteP_le (bl m.2.2)
    unfold oneT
    rw [List.length_append, List.length_append, bl_len]
    rw [bl_len] at hq
    omega
  have hbr : ∀ (r : List Mt') (k : Nat), (∀ m ∈ r, m ∈ l) → (bracesFrom k r).length ≤ r.length * 1002 + 1 := by
    intro r
    induction r with
    | nil => intro k _; simp [bracesFrom]
    | cons m r ih =>
      intro k hr
      have hm := hone m (hr m (by simp))
      have := ih (k + 1) (fun x hx => hr x (by simp [hx]))
      rw [bracesFrom, List.length_append, List.length_append, List.length_cons]
      have h2 : (if k = 0 then ([] : Bs) else [44, 32]).length ≤ 2 := by split <;> simp
      omega
  have hb : ∀ r : List Mt', (∀ m ∈ r, m ∈ l) → r.length ≤ 40 → (bracesM r).length ≤ 41000 := fun r hr hl => by
    unfold bracesM
    have := hbr r 0 hr
    rw [List.length_cons]; omega
  match l, h1, h2, hb with
  | [], _, _, hb => have := hb [] (by simp) (by simp); show (bracesM []).length ≤ _; omega
  | [m], h1, h2, hb =>
    show (if metricM m then bl m.2.2 else bracesM [m]).length ≤ _
    have := hb [m] (fun x hx => hx) h1
    have h3 := (h2 m (by simp)).2
    have h4 := bl_len m.2.2
    split <;> omega
  | m :: a :: r, h1, h2, hb =>
    show (if metricM m then bl m.2.2 ++ bracesM (a :: r) else bracesM (m :: a :: r)).length ≤ _
    have e1 := hb (m :: a :: r) (fun x hx => hx) h1
    have e2 := hb (a :: r) (fun x hx => List.mem_cons_of_mem _ hx) (by simp at h1 ⊢; omega)
    have h3 := (h2 m (by simp)).2
    have h4 := bl_len m.2.2
    split
    · rw [List.length_append]; omega
    · omega
theorem mtold_walk (A : Option Addr) (c : Nat) (l : List Mt') (w : World) (hT : Tabs w) (hx : Rd w A (mcells l)) (hc : l.length ≤ c) :
    Calls Tryd.prog 4 #[.slice A l.length c] w fun e w' => e = .returned (.bool true) ∧ RowKit.Below w.heap.size w w' := by
  have HLV := Lib.hid (fun (W' : World) (hb : RowKit.Below w.heap.size w W') => mlive_any W' (hT.below hb))
  have HX := Lib.hid hx; have HT := Lib.hid hT
  clear hx hT
  go_enter Tryd.func4, Tryd.ntmps4
  go_wp2_with fail
  refine (HLV.out w (RowKit.Below.refl _ _)).mono ?_
  rintro e w1 ⟨rfl, hb1⟩
  have HB1 := Lib.hid hb1; clear hb1
  have hf := mfew_any A c l w1 (HX.out.below HB1.out)
  cases hfl : fewL l with
  | false =>
    rw [hfl] at hf
    have HF := Lib.hid hf; clear hf
    go_wp2_with fail
    refine HF.out.mono ?_
    rintro e w2 ⟨rfl, hb2⟩
    have HB2 := Lib.hid (HB1.out.trans (hb2.mono HB1.out.size)); clear hb2
    go_wp2_with fail
    refine (HLV.out w2 HB2.out).mono ?_
    rintro e w3 ⟨rfl, hb3⟩
    have HB3 := Lib.hid (HB2.out.trans (hb3.mono HB2.out.size)); clear hb3
    go_wp2
    go_ret
    exact ⟨rfl, HB3.out⟩
  | true =>
    rw [hfl] at hf
    have HF := Lib.hid hf; clear hf
    obtain ⟨hn, hsz⟩ := fewL_of hfl
    go_wp2_with fail
    refine HF.out.mono ?_
    rintro e w2 ⟨rfl, hb2⟩
    have HB2 := Lib.hid (HB1.out.trans (hb2.mono HB1.out.size)); clear hb2
    have hr := mright_any A c l w2 (HX.out.below HB2.out) (HT.out.below HB2.out) (by omega) (fun m hm => by have := (hsz m hm).2; omega)
    by_cases hz : rightM l = 0
    · rw [hz] at hr
      have HR := Lib.hid hr; clear hr
      have hps := print_size hfl
      have hpp := parse_print hz
      have HPS := Lib.hid hps; have HPP := Lib.hid hpp
      clear hps hpp hz
      go_wp2_with fail
      refine HR.out.mono ?_
      rintro e w3 ⟨rfl, hb3⟩
      have HB3 := Lib.hid (HB2.out.trans (hb3.mono HB2.out.size)); clear hb3
      have HP := Lib.hid (mprint_any A c l w3 (HX.out.below HB3.out) hc (fewL_few hfl))
      go_wp2_with fail
      refine HP.out.mono ?_
      rintro e w4 ⟨rfl, hb4⟩
      have HB4 := Lib.hid (HB3.out.trans (hb4.mono HB3.out.size)); clear hb4
      have hpa := mparse_any (mkB (printM l)) w4 (HT.out.below HB4.out) (by rw [mkB_size]; exact HPS.out)
      rw [bl_mk, HPP.out] at hpa
      have HPA := Lib.hid hpa; clear hpa
      go_wp2_with fail
      refine HPA.out.mono ?_
      rintro e w5 ⟨A5, c5, rfl, ho5, hb5⟩
      have HB5 := Lib.hid (HB4.out.trans (hb5.mono HB4.out.size)); clear hb5
      obtain ⟨A', c', e', hr5, -, -⟩ := own_rd_mt ho5
      injection e' with e1 _ e2
      subst e1; subst e2
      have hsm := rsameM_any A A5 c c5 l l w5 (HX.out.below HB5.out) hr5 (by omega) (by omega)
      rw [decide_eq_true rfl] at hsm
      have HSM := Lib.hid hsm; clear hsm hr5 ho5
      go_wp2_with fail
      refine HSM.out.mono ?_
      rintro e w6 ⟨rfl, n, rfl⟩
      go_wp2
      go_ret
      exact ⟨rfl, below_drewN HB5.out n⟩
    · generalize rightM l = C at hr hz
      have HR := Lib.hid hr; clear hr
      have hc2 : ¬ ((C : Nat) : Int) = 0 := by omega
      have hc3 : (((C : Nat) : Int) != 0) = true := by rw [bne_iff_ne]; exact hc2
      go_wp2_with fail
      refine HR.out.mono ?_
      rintro e w3 ⟨rfl, hb3⟩
      have HB3 := Lib.hid (HB2.out.trans (hb3.mono HB2.out.size)); clear hb3
      go_wp2_with fail
      refine (HLV.out w3 HB3.out).mono ?_
      rintro e w4 ⟨rfl, hb4⟩
      have HB4 := Lib.hid (HB3.out.trans (hb4.mono HB3.out.size)); clear hb4
      go_wp2
      go_ret
      exact ⟨rfl, HB4.out⟩
end

set_option maxRecDepth 100000 in
theorem matchTold_contract (H : Type) (enc : TypeId × Value → H) (W : World) (base : Nat) (args : Array Value) (ds gs : List (DataW H)) (before : List MemPlace)
    (hval : ∀ (j : Nat) t v, Tryd.f4.params[j]? = some t → args[j]? = some v → Value.okWide Tryd.prog W .any base t v)
    (hW : DataW.Whole enc Tryd.prog Tryd.f4.params.toList Rows.matchToldSpec.vars false W args.toList ds gs before) (hL : laidMetH Tryd.prog Rows.matchToldRow.laid W) :
    Calls Tryd.prog 4 args W fun e W' => ∃ v, e = .returned v ∧ Rows.matchToldSpec.post enc Tryd.prog Tryd.f4 false true false false W args v W' := by
  have hW' := hW
  obtain ⟨p, q, hA0, hV, rfl, hfz, hnd⟩ := hW
  have hA : DataW.TrodAll enc Tryd.prog W 0 (fun _ => true) true Tryd.f4.params.toList args.toList ds p := hA0
  rw [Tryd.params4] at hA hval
  obtain ⟨v0, vs0, d0, ds0, p0, q0, hargs, rfl, rfl, h0, r0⟩ := trodAll_cons hA
  obtain ⟨rfl, rfl, rfl⟩ := trodAll_nil r0
  obtain rfl : args = #[v0] := by cases args; simp_all
  obtain ⟨rfl, rfl⟩ := trodVars_none hV
  obtain ⟨A0, c0, m0, rfl, hm0, hx0, hs0⟩ := open_matchers (hval 0 31 v0 rfl rfl) h0
  clear hA0 hA
  unfold maxLen at hm0 hs0
  refine (mtold_walk A0 c0 m0 W (tabs hL) hx0 hm0.1).mono fun e W' ⟨he, hg⟩ => ?_
  subst he
  exact ⟨_, rfl, law_end laidOut (by kernel_rfl) (by kernel_rfl) Tryd.underlying4 rfl hW' ⟨rfl, rfl, rfl⟩ hg⟩

theorem matchTold_met (os : Os) : laidMet Tryd.prog Rows.matchToldRow.laid ((laidWorld os).forCall (fun _ _ => 0) ⟨#[], #[.slice none 0 0], []⟩).memory :=
  laid_met os _
theorem matchTold_reads (os : Os) {H : Type} (enc : TypeId × Value → H) : ∃ places, DataW.whole enc Tryd.prog ((laidWorld os).forCall (fun _ _ => 0) ⟨#[], #[.slice none 0 0], []⟩).memory Tryd.f4.params.toList Rows.matchToldSpec.vars false (#[.slice none 0 0] : Array Value).toList 8 = some ([.nil], [], places) :=
  ⟨[], by kernel_rfl⟩

set_option maxRecDepth 100000 in
theorem matchTold_lifted (os : Os) (started : os.Started) (H : Type) (enc : TypeId × Value → H) (F : Stop.Interp) :
    ReturnsInHanded {} Tryd.checked os 4 .any ((OpenSpec.ofChange Rows.matchToldSpec).preRow enc Tryd.prog Tryd.f4 Rows.matchToldRow.domain false Rows.matchToldRow.laid) (((OpenSpec.ofChange Rows.matchToldSpec).at F).post enc Tryd.prog Tryd.f4 false true false false) := by
  obtain ⟨places, hx⟩ := matchTold_reads os enc
  refine returnsInHanded_of_row (C := Tryd.checked) (s := OpenSpec.ofChange Rows.matchToldSpec) ownKn started (by kernel_rfl) Tryd.func4
    (witness_row_at (enc := enc) (C := Tryd.checked) false (laidWorld os) #[.slice none 0 0] rfl (by kernel_rfl) (by kernel_rfl) (by kernel_rfl)
      (OpenSpec.preRow_of_cond 8 hx (by kernel_rfl) (fun k hk => by cases hk) (by kernel_rfl) (matchTold_met os))) ?_
  intro W base args ds gs before hval hW _ _ _ hL _ _
  exact matchTold_contract H enc W base args ds gs before hval hW hL

theorem matchTold_said : Rows.MatchToldSaid :=
  OpenClaim.holds_of_cond 4 Tryd.f4 rfl rfl rfl rfl rfl rfl rfl ⟨rfl, rfl, rfl, rfl, rfl⟩ rfl rfl rfl rfl rfl (by kernel_rfl) Tryd.func4 (by kernel_rfl)
    (of_decide_eq_true (by kernel_rfl)) (by unfold Func.isWrapper; first | (rw [if_pos (by decide +kernel)]; kernel_rfl) | (rw [if_neg (by decide +kernel)]; exact ⟨rfl, rfl⟩))
    (fun os started H enc _ F => by rw [OpenClaim.pre_eq_preRow]; exact matchTold_lifted os started H enc F)

theorem matchTold_plain (f : FuncId) (fn : Func) (hf : Tryd.pinned.checked.prog.funcNamed "manometer/manometerlaw07.MatchTold" = some f) (hfn : Tryd.pinned.checked.prog.funcs[f]? = some fn) :
    true = Tryd.pinned.checked.prog.looks [] ∧ ∀ (j : Nat) t, fn.params[j]? = some t → Tryd.pinned.checked.prog.wantsStandIn t = false := by
  obtain rfl : f = 4 := Option.some.inj ((show Tryd.prog.funcNamed "manometer/manometerlaw07.MatchTold" = some 4 by kernel_rfl).symm.trans hf) |>.symm
  obtain rfl : fn = Tryd.f4 := (Option.some.inj (Tryd.func4.symm.trans hfn)).symm
  refine ⟨by kernel_rfl, fun j t ht => ?_⟩
  rw [Tryd.params4] at ht
  have hm : t = 31 := by simpa using Array.mem_of_getElem? ht
  rcases hm with rfl
  · exact (show Tryd.prog.wantsStandIn 31 = false by kernel_rfl)

theorem matchTold_card : Rows.MatchToldCardSaid :=
  Claim7.holds_tied_plain_at .later [] _ _ _ _ matchTold_said (fun _ h => by cases h) (by kernel_rfl) (fun _ h => by cases h) matchTold_row_tie rfl ⟨rfl, rfl⟩ (by kernel_rfl) rfl matchTold_plain (by kernel_rfl)
#print axioms matchTold_card

end Go.Proofs.YtalcbbpghfdeeaaDoor
