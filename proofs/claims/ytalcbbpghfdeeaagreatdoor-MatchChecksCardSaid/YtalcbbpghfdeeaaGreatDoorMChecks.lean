/-
  MatchChecks (P7.1): what is wrong with any matcher, and with any matchers, is the plain answers'. The condition is the library's two tables': they hold what their initialisers lay, which the card ties to the program's text.
-/
import Derived.Test.YtalcbbpghfdeeaaGreatDoorMlw
import Derived.Test.YtalcbbpghfdeeaaGreatDoorMli
import Derived.Test.YtalcbbpghfdeeaaGreatDoorRsm
import Derived.Test.YtalcbbpghfdeeaaGreatDoorRmr
namespace Go.Proofs.YtalcbbpghfdeeaaGreatDoor
set_option linter.unusedVariables false
set_option linter.unusedSimpArgs false
open Go.ChangeMaps (open_string)
open Go.ChangeShapes Go.WideShapes Go.ChangeAt Go.RowKit
section
set_option maxHeartbeats 3200000
set_option maxRecDepth 100000
theorem mchecks_walk (A : Option Addr) (c : Nat) (l : List Mt') (w : World) (hT : Tabs w) (hx : Rd w A (mcells l)) :
    Calls Tryz.prog 3 #[.slice A l.length c] w fun e w' => e = .returned (.bool true) ∧ RowKit.Below w.heap.size w w' := by
  have HLV := Lib.hid (fun (W' : World) (hb : RowKit.Below w.heap.size w W') => mlive_any W' (hT.below hb))
  have HX := Lib.hid hx; have HT := Lib.hid hT
  clear hx hT
  go_enter Tryz.func3, Tryz.ntmps3
  go_wp2_with fail
  refine (HLV.out w (RowKit.Below.refl _ _)).mono ?_
  rintro e w1 ⟨rfl, hb1⟩
  have HB1 := Lib.hid hb1; clear hb1
  have hf := mfew_any A c l w1 (HX.out.below HB1.out)
  cases hfl : fewL l with
  | false =>
    rw [hfl] at hf
    have HF := Lib.hid hf; clear hf
    go_wp2_with fail
    refine HF.out.mono ?_
    rintro e w2 ⟨rfl, hb2⟩
    have HB2 := Lib.hid (HB1.out.trans (hb2.mono HB1.out.size)); clear hb2
    go_wp2_with fail
    refine (HLV.out w2 HB2.out).mono ?_
    rintro e w3 ⟨rfl, hb3⟩
    have HB3 := Lib.hid (HB2.out.trans (hb3.mono HB2.out.size)); clear hb3
    go_wp2
    go_ret
    exact ⟨rfl, HB3.out⟩
  | true =>
    rw [hfl] at hf
    have HF := Lib.hid hf; clear hf
    obtain ⟨hn, hsz⟩ := fewL_of hfl
    have HSZ := Lib.hid hsz
    clear hsz hfl
    go_wp2_with fail
    refine HF.out.mono ?_
    rintro e w2 ⟨rfl, hb2⟩
    have HB2 := Lib.hid (HB1.out.trans (hb2.mono HB1.out.size)); clear hb2
    go_wp2_with fail
    go_loopw [15] (fun s15 wr => ∃ k : Nat, s15 = .int .i64 k ∧ k ≤ l.length ∧ Aside (RowKit.Below w.heap.size w wr)) (fun s15 _ => l.length - (intOf s15).toNat)
    case atStart => exact ⟨0, rfl, by omega, HB2.out⟩
    case round =>
      obtain ⟨k, rfl, hk, BW⟩ := hrel
      have k0 : (0 : Int) ≤ (k : Int) := by omega
      by_cases hlt : k < l.length
      · have k1 : (k : Int) < (l.length : Int) := by omega
        obtain ⟨b, off, rfl, c0, c1, c2⟩ := mt_at (HX.out.below BW.out) hlt
        obtain ⟨hv1, hv2⟩ := HSZ.out l[k] (List.getElem_mem hlt)
        generalize l[k] = y at c0 c1 c2 hv1 hv2
        obtain ⟨y1, y2, y3⟩ := y
        simp only at c0 c1 c2 hv1 hv2
        obtain ⟨W, hW⟩ : ∃ W, W = wr.alloc (.cells #[.int .i64 y1, .string y2, .string y3] 26) := ⟨_, rfl⟩
        have hbW : RowKit.Below wr.heap.size wr W := by rw [hW]; exact (RowKit.Below.refl _ wr).alloc (Nat.le_refl _) _
        have hbx : W.heap[wr.heap.size]? = some (.cells #[.int .i64 y1, .string y2, .string y3] 26 (0, 0)) := by rw [hW]; exact heap_alloc_new wr _
        have hbwW := BW.out.trans (hbW.mono BW.out.size)
        have HS := Lib.hid (fun (W' : World) (hb : RowKit.Below W.heap.size W W') => show W'.cell? ⟨wr.heap.size, 0, none⟩ = some (.int .i64 y1) ∧ W'.cell? ⟨wr.heap.size, 1, none⟩ = some (.string y2) ∧ W'.cell? ⟨wr.heap.size, 2, none⟩ = some (.string y3) from by
          have h := (hb.block _ (blk_lt hbx)).trans hbx
          have e0 := cell_blk h 0; have e1 := cell_blk h 1; have e2 := cell_blk h 2
          simp only [List.getElem?_toArray, List.getElem?_cons_zero, List.getElem?_cons_succ] at e0 e1 e2
          exact ⟨e0, e1, e2⟩)
        have hc1 := fun (W' : World) (hb : RowKit.Below W.heap.size W W') => mcheck_any (y1, y2, y3) W' ((HT.out.below hbwW).below hb) (by simp only; omega)
        have hc2 := fun (W' : World) => rmcheck_any (y1, y2, y3) W' (by simp only; omega) (by simp only; omega)
        generalize checkM (y1, y2, y3) = C at hc1 hc2
        unfold aggMt at hc1 hc2
        simp only at hc1 hc2
        have HC1 := Lib.hid hc1; have HC2 := Lib.hid hc2; have HW := Lib.hid hW; have HWW := Lib.hid hbwW
        have HBc := Lib.hid (RowKit.Below.refl W.heap.size W)
        have ec : (((C : Nat) : Int) != ((C : Nat) : Int)) = false := by simp
        clear hc1 hc2 hW hbW hbwW hbx
        go_wp2_with fail
        rw [← HW.out]
        go_region_held3 (fun W' => W'.cell? ⟨wr.heap.size, 0, none⟩ = some (.int .i64 y1) ∧ W'.cell? ⟨wr.heap.size, 1, none⟩ = some (.string y2) ∧ W'.cell? ⟨wr.heap.size, 2, none⟩ = some (.string y3)) (first | exact HS.out _ HBc.out | exact HS.out _ (below_drewN HBc.out _)) (first
          | (go_at_call 10; go_must (refine (HC1.out _ (by first | exact HBc.out | exact below_drewN HBc.out _)).mono ?_; rintro e wq ⟨rfl, hbq⟩; (try (have hq1 := undrewM hbq; clear hbq; have hbq := hq1; clear hq1)); have hq1 := HBc.out.trans (hbq.mono HBc.out.size); have HBc := Lib.hid hq1; clear hq1 hbq))
          | (go_at_call 11; go_must (refine (HC2.out _).mono ?_; rintro e wq ⟨rfl, hbq⟩; (try (have hq1 := undrewM hbq; clear hbq; have hbq := hq1; clear hq1)); have hq1 := HBc.out.trans (hbq.mono HBc.out.size); have HBc := Lib.hid hq1; clear hq1 hbq))
          | fail)
        all_goals
          go_wp2_with fail
          go_roundw
          case rel => exact ⟨k + 1, by go_num, by omega, (by first | exact HWW.out.trans (HBc.out.mono HWW.out.size) | exact below_drewN (HWW.out.trans (HBc.out.mono HWW.out.size)) _)⟩
          case measure => simp [intOf]; omega
      · obtain rfl : k = l.length := by omega
        have hr1 := mright_any A c l wr (HX.out.below BW.out) (HT.out.below BW.out) (by omega) (fun m hm => by have := (HSZ.out m hm).2; omega)
        have hr2 := fun (W' : World) (hb : RowKit.Below w.heap.size w W') => rmright_any A c l W' (HX.out.below hb) (by omega) (fun m hm => by have := HSZ.out m hm; omega)
        generalize rightM l = C at hr1 hr2
        have HR1 := Lib.hid hr1; have HR2 := Lib.hid hr2; have HBW := Lib.hid BW.out
        clear hr1 hr2 BW
        go_wp2_with fail
        refine HR1.out.mono ?_
        rintro e w3 ⟨rfl, hb3⟩
        have HB3 := Lib.hid (HBW.out.trans (hb3.mono HBW.out.size)); clear hb3
        go_wp2_with fail
        refine (HR2.out w3 HB3.out).mono ?_
        rintro e w4 ⟨rfl, hb4⟩
        have HB4 := Lib.hid (HB3.out.trans (hb4.mono HB3.out.size)); clear hb4
        go_wp2
        go_ret
        exact ⟨by simp, HB4.out⟩
end

set_option maxRecDepth 100000 in
theorem matchChecks_contract (H : Type) (enc : TypeId × Value → H) (W : World) (base : Nat) (args : Array Value) (ds gs : List (DataW H)) (before : List MemPlace)
    (hval : ∀ (j : Nat) t v, Tryz.f3.params[j]? = some t → args[j]? = some v → Value.okWide Tryz.prog W .any base t v)
    (hW : DataW.Whole enc Tryz.prog Tryz.f3.params.toList Rows.matchChecksSpec.vars false W args.toList ds gs before) (hL : laidMetH Tryz.prog Rows.matchChecksRow.laid W) :
    Calls Tryz.prog 3 args W fun e W' => ∃ v, e = .returned v ∧ Rows.matchChecksSpec.post enc Tryz.prog Tryz.f3 false true false false W args v W' := by
  have hW' := hW
  obtain ⟨p, q, hA0, hV, rfl, hfz, hnd⟩ := hW
  have hA : DataW.TrodAll enc Tryz.prog W 0 (fun _ => true) true Tryz.f3.params.toList args.toList ds p := hA0
  rw [Tryz.params3] at hA hval
  obtain ⟨v0, vs0, d0, ds0, p0, q0, hargs, rfl, rfl, h0, r0⟩ := trodAll_cons hA
  obtain ⟨rfl, rfl, rfl⟩ := trodAll_nil r0
  obtain rfl : args = #[v0] := by cases args; simp_all
  obtain ⟨rfl, rfl⟩ := trodVars_none hV
  obtain ⟨A0, c0, m0, rfl, hm0, hx0, hs0⟩ := open_matchers (hval 0 22 v0 rfl rfl) h0
  clear hA0 hA
  unfold maxLen at hm0 hs0
  refine (mchecks_walk A0 c0 m0 W (tabs hL) hx0).mono fun e W' ⟨he, hg⟩ => ?_
  subst he
  exact ⟨_, rfl, law_end laidOut (by kernel_rfl) (by kernel_rfl) Tryz.underlying4 rfl hW' ⟨rfl, rfl, rfl⟩ hg⟩

theorem matchChecks_met (os : Os) : laidMet Tryz.prog Rows.matchChecksRow.laid ((laidWorld os).forCall (fun _ _ => 0) ⟨#[], #[.slice none 0 0], []⟩).memory :=
  laid_met os _
theorem matchChecks_reads (os : Os) {H : Type} (enc : TypeId × Value → H) : ∃ places, DataW.whole enc Tryz.prog ((laidWorld os).forCall (fun _ _ => 0) ⟨#[], #[.slice none 0 0], []⟩).memory Tryz.f3.params.toList Rows.matchChecksSpec.vars false (#[.slice none 0 0] : Array Value).toList 8 = some ([.nil], [], places) :=
  ⟨[], by kernel_rfl⟩

set_option maxRecDepth 100000 in
theorem matchChecks_lifted (os : Os) (started : os.Started) (H : Type) (enc : TypeId × Value → H) (F : Stop.Interp) :
    ReturnsInHanded {} Tryz.checked os 3 .any ((OpenSpec.ofChange Rows.matchChecksSpec).preRow enc Tryz.prog Tryz.f3 Rows.matchChecksRow.domain false Rows.matchChecksRow.laid) (((OpenSpec.ofChange Rows.matchChecksSpec).at F).post enc Tryz.prog Tryz.f3 false true false false) := by
  obtain ⟨places, hx⟩ := matchChecks_reads os enc
  refine returnsInHanded_of_row (C := Tryz.checked) (s := OpenSpec.ofChange Rows.matchChecksSpec) ownKn started (by kernel_rfl) Tryz.func3
    (witness_row_at (enc := enc) (C := Tryz.checked) false (laidWorld os) #[.slice none 0 0] rfl (by kernel_rfl) (by kernel_rfl) (by kernel_rfl)
      (OpenSpec.preRow_of_cond 8 hx (by kernel_rfl) (fun k hk => by cases hk) (by kernel_rfl) (matchChecks_met os))) ?_
  intro W base args ds gs before hval hW _ _ _ hL _ _
  exact matchChecks_contract H enc W base args ds gs before hval hW hL

theorem matchChecks_said : Rows.MatchChecksSaid :=
  OpenClaim.holds_of_cond 3 Tryz.f3 rfl rfl rfl rfl rfl rfl rfl ⟨rfl, rfl, rfl, rfl, rfl⟩ rfl rfl rfl rfl rfl (by kernel_rfl) Tryz.func3 (by kernel_rfl)
    (of_decide_eq_true (by kernel_rfl)) (by unfold Func.isWrapper; first | (rw [if_pos (by decide +kernel)]; kernel_rfl) | (rw [if_neg (by decide +kernel)]; exact ⟨rfl, rfl⟩))
    (fun os started H enc _ F => by rw [OpenClaim.pre_eq_preRow]; exact matchChecks_lifted os started H enc F)

theorem matchChecks_plain (f : FuncId) (fn : Func) (hf : Tryz.pinned.checked.prog.funcNamed "manometer/manometerlaw07.MatchChecks" = some f) (hfn : Tryz.pinned.checked.prog.funcs[f]? = some fn) :
    true = Tryz.pinned.checked.prog.looks [] ∧ ∀ (j : Nat) t, fn.params[j]? = some t → Tryz.pinned.checked.prog.wantsStandIn t = false := by
  obtain rfl : f = 3 := Option.some.inj ((show Tryz.prog.funcNamed "manometer/manometerlaw07.MatchChecks" = some 3 by kernel_rfl).symm.trans hf) |>.symm
  obtain rfl : fn = Tryz.f3 := (Option.some.inj (Tryz.func3.symm.trans hfn)).symm
  refine ⟨by kernel_rfl, fun j t ht => ?_⟩
  rw [Tryz.params3] at ht
  have hm : t = 22 := by simpa using Array.mem_of_getElem? ht
  rcases hm with rfl
  · exact (show Tryz.prog.wantsStandIn 22 = false by kernel_rfl)

theorem matchChecks_card : Rows.MatchChecksCardSaid :=
  Claim7.holds_tied_plain_at .later [] _ _ _ _ matchChecks_said (fun _ h => by cases h) (by kernel_rfl) (fun _ h => by cases h) matchChecks_row_tie rfl ⟨rfl, rfl⟩ (by kernel_rfl) rfl matchChecks_plain (by kernel_rfl)
#print axioms matchChecks_card

end Go.Proofs.YtalcbbpghfdeeaaGreatDoor
