/-
  MatchPlain (P7.6): a form of letters and digits alone is the text itself. The condition is the library's two tables': they hold what their initialisers lay, which the card ties to the program's text.
-/
import Derived.Test.YtalcbbpghfdeeaaDoorMlw
import Derived.Test.YtalcbbpghfdeeaaDoorMpp
namespace Go.Proofs.YtalcbbpghfdeeaaDoor
set_option linter.unusedVariables false
set_option linter.unusedSimpArgs false
open Go.ChangeMaps (open_string)
open Go.ChangeShapes Go.WideShapes Go.ChangeAt Go.RowKit
section
set_option maxHeartbeats 3200000
set_option maxRecDepth 100000
theorem mplain_walk (n t v : ByteArray) (w : World) (hT : Tabs w) (hsz : t.size ≤ maxLen) :
    Calls Tryd.prog 7 #[.string n, .string t, .string v] w fun e w' => e = .returned (.bool true) ∧ RowKit.Below w.heap.size w w' := by
  have HLV := Lib.hid (fun (W' : World) (hb : RowKit.Below w.heap.size w W') => mlive_any W' (hT.below hb))
  have HT := Lib.hid hT
  clear hT
  go_enter Tryd.func7, Tryd.ntmps7
  go_wp2_with fail
  refine (HLV.out w (RowKit.Below.refl _ _)).mono ?_
  rintro e w1 ⟨rfl, hb1⟩
  have HB1 := Lib.hid hb1; clear hb1
  by_cases ht : t.size ≤ 60
  rotate_left
  · have ht2 : (60 : Int) < (t.size : Int) := by omega
    go_wp2_with fail
    refine (HLV.out w1 HB1.out).mono ?_
    rintro e w4 ⟨rfl, hb4⟩
    have HB4 := Lib.hid (HB1.out.trans (hb4.mono HB1.out.size)); clear hb4
    go_wp2
    go_ret
    exact ⟨rfl, HB4.out⟩
  have ht2 : ¬ (60 : Int) < (t.size : Int) := by omega
  by_cases hv : v.size ≤ 200
  rotate_left
  · have hv2 : (200 : Int) < (v.size : Int) := by omega
    go_wp2_with fail
    refine (HLV.out w1 HB1.out).mono ?_
    rintro e w4 ⟨rfl, hb4⟩
    have HB4 := Lib.hid (HB1.out.trans (hb4.mono HB1.out.size)); clear hb4
    go_wp2
    go_ret
    exact ⟨rfl, HB4.out⟩
  have hv2 : ¬ (200 : Int) < (v.size : Int) := by omega
  go_wp2_with fail
  go_loopw [26] (fun s26 wr => ∃ k : Nat, s26 = .int .i64 k ∧ k ≤ t.size ∧ wr = w1 ∧ Aside (alnumL ((bl t).take k) = true)) (fun s26 _ => t.size - (intOf s26).toNat)
  case atStart => exact ⟨0, rfl, by omega, rfl, by rw [List.take_zero]; rfl⟩
  case round =>
    obtain ⟨k, rfl, hk, rfl, E⟩ := hrel
    have k0 : (0 : Int) ≤ (k : Int) := by omega
    by_cases hlt : k < t.size
    · have k1 : (k : Int) < (t.size : Int) := by omega
      have hlt' : k < (bl t).length := by rw [bl_len]; exact hlt
      have hstep : alnumL ((bl t).take (k + 1)) = (alnumL ((bl t).take k) && alnumN (byN t k)) := by
        have hb : (bl t).getD k 0 = (bl t)[k] := by rw [List.getD_eq_getElem?_getD, List.getElem?_eq_getElem hlt']; rfl
        unfold alnumL byN
        rw [List.take_succ_eq_append_getElem hlt', List.all_append, hb]; simp
      have hix : ∀ W, (Instr.index 9 (.string t) (.int .i64 (k : Int))).run Tryd.prog W = .ok (.int .u8 (byN t k : Nat)) W := fun W => run_index_s W t .i64 k hlt
      rw [E.out, Bool.true_and] at hstep
      have HE := Lib.hid hstep
      clear hstep E
      generalize byN t k = c at hix HE
      have hcase : (97 ≤ c ∧ c ≤ 122) ∨ (65 ≤ c ∧ c ≤ 90) ∨ (48 ≤ c ∧ c ≤ 57) ∨ c < 48 ∨ (57 < c ∧ c < 65) ∨ (90 < c ∧ c < 97) ∨ 122 < c := by omega
      rcases hcase with h | h | h | h | h | h | h
      · have g1 : ¬ (c : Int) < 97 := by omega
        have g2 : ¬ (122 : Int) < (c : Int) := by omega
        have HE2 := Lib.hid (show alnumL ((bl t).take (k + 1)) = true by rw [HE.out]; unfold alnumN; simp [h.1, h.2])
        clear HE h
        go_wp2_with fail
        go_roundw
        case rel => exact ⟨k + 1, by go_num, by omega, trivial, (show Aside _ from HE2.out)⟩
        case measure => simp [intOf]; omega
      · have g1 : (c : Int) < 97 := by omega
        have g2 : ¬ (c : Int) < 65 := by omega
        have g3 : ¬ (90 : Int) < (c : Int) := by omega
        have HE2 := Lib.hid (show alnumL ((bl t).take (k + 1)) = true by rw [HE.out]; unfold alnumN; simp [h.1, h.2])
        clear HE h
        go_wp2_with fail
        go_roundw
        case rel => exact ⟨k + 1, by go_num, by omega, trivial, (show Aside _ from HE2.out)⟩
        case measure => simp [intOf]; omega
      · have g1 : (c : Int) < 97 := by omega
        have g2 : (c : Int) < 65 := by omega
        have g3 : ¬ (c : Int) < 48 := by omega
        have g4 : ¬ (57 : Int) < (c : Int) := by omega
        have HE2 := Lib.hid (show alnumL ((bl t).take (k + 1)) = true by rw [HE.out]; unfold alnumN; simp [h.1, h.2])
        clear HE h
        go_wp2_with fail
        go_roundw
        case rel => exact ⟨k + 1, by go_num, by omega, trivial, (show Aside _ from HE2.out)⟩
        case measure => simp [intOf]; omega
      · have g1 : (c : Int) < 97 := by omega
        have g2 : (c : Int) < 65 := by omega
        have g3 : (c : Int) < 48 := by omega
        go_wp2
        go_ret
        exact ⟨rfl, HB1.out⟩
      · have g1 : (c : Int) < 97 := by omega
        have g2 : (c : Int) < 65 := by omega
        have g3 : ¬ (c : Int) < 48 := by omega
        have g4 : (57 : Int) < (c : Int) := by omega
        go_wp2
        go_ret
        exact ⟨rfl, HB1.out⟩
      · have g1 : (c : Int) < 97 := by omega
        have g2 : ¬ (c : Int) < 65 := by omega
        have g3 : (90 : Int) < (c : Int) := by omega
        have g4 : ¬ (c : Int) < 48 := by omega
        have g5 : (57 : Int) < (c : Int) := by omega
        go_wp2
        go_ret
        exact ⟨rfl, HB1.out⟩
      · have g1 : ¬ (c : Int) < 97 := by omega
        have g2 : (122 : Int) < (c : Int) := by omega
        have g3 : ¬ (c : Int) < 65 := by omega
        have g4 : (90 : Int) < (c : Int) := by omega
        have g5 : ¬ (c : Int) < 48 := by omega
        have g6 : (57 : Int) < (c : Int) := by omega
        go_wp2
        go_ret
        exact ⟨rfl, HB1.out⟩
    · obtain rfl : k = t.size := by omega
      have hal : alnumL (bl t) = true := by have := E.out; rwa [List.take_of_length_le (by rw [bl_len]; exact Nat.le_refl _)] at this
      have hck := plain_check (n := n) hal (by omega)
      have hon := plain_one (n := n) hal (by omega) v
      obtain ⟨W, hW⟩ : ∃ W, W = (wr.alloc (.cells #[.int .i64 1, .string n, .string t] 40)).alloc (.cells #[.int .i64 3, .string n, .string t] 40) := ⟨_, rfl⟩
      have hbW : RowKit.Below w.heap.size w W := by rw [hW]; exact (HB1.out.alloc HB1.out.size _).alloc (by have := HB1.out.size; simp; omega) _
      have hg1 : W.heap[wr.heap.size]? = some (.cells #[.int .i64 1, .string n, .string t] 40 (0, 0)) := by
        rw [hW, Below.heap_alloc _ _ _ (by simp)]; exact heap_alloc_new wr _
      have hg2 : W.heap[wr.heap.size + 1]? = some (.cells #[.int .i64 3, .string n, .string t] 40 (0, 0)) := by rw [hW]; exact heap_alloc_new2 wr _ _
      have HS := Lib.hid (fun (W' : World) (hb : RowKit.Below W.heap.size W W') => show (W'.cell? ⟨wr.heap.size, 0, none⟩ = some (.int .i64 1) ∧ W'.cell? ⟨wr.heap.size, 1, none⟩ = some (.string n) ∧ W'.cell? ⟨wr.heap.size, 2, none⟩ = some (.string t)) ∧ (W'.cell? ⟨wr.heap.size + 1, 0, none⟩ = some (.int .i64 3) ∧ W'.cell? ⟨wr.heap.size + 1, 1, none⟩ = some (.string n) ∧ W'.cell? ⟨wr.heap.size + 1, 2, none⟩ = some (.string t)) from by
        have h1 := (hb.block _ (blk_lt hg1)).trans hg1
        have h2 := (hb.block _ (blk_lt hg2)).trans hg2
        have e0 := cell_blk h1 0; have e1 := cell_blk h1 1; have e2 := cell_blk h1 2
        have d0 := cell_blk h2 0; have d1 := cell_blk h2 1; have d2 := cell_blk h2 2
        simp only [List.getElem?_toArray, List.getElem?_cons_zero, List.getElem?_cons_succ] at e0 e1 e2 d0 d1 d2
        exact ⟨⟨e0, e1, e2⟩, d0, d1, d2⟩)
      have hc1 := fun (W' : World) (hb : RowKit.Below W.heap.size W W') => mcheck_any (1, n, t) W' ((HT.out.below hbW).below hb) (by simp only; omega)
      have hc3 := fun (W' : World) (hb : RowKit.Below W.heap.size W W') => mcheck_any (3, n, t) W' ((HT.out.below hbW).below hb) (by simp only; omega)
      have ho1 := fun (W' : World) (hb : RowKit.Below W.heap.size W W') => mone_any (1, n, t) v W' ((HT.out.below hbW).below hb) (by simp only; omega)
      have ho3 := fun (W' : World) (hb : RowKit.Below W.heap.size W W') => mone_any (3, n, t) v W' ((HT.out.below hbW).below hb) (by simp only; omega)
      rw [hck] at hc3
      rw [hon] at ho3
      generalize checkM (1, n, t) = C at hc1 hc3
      generalize oneM (1, n, t) v = O at ho1 ho3
      unfold aggMt at hc1 hc3 ho1 ho3
      simp only at hc1 hc3 ho1 ho3
      have HC1 := Lib.hid hc1; have HC3 := Lib.hid hc3; have HO1 := Lib.hid ho1; have HO3 := Lib.hid ho3; have HW := Lib.hid hW; have HBW := Lib.hid hbW
      have HBc := Lib.hid (RowKit.Below.refl W.heap.size W)
      have HBd := Lib.hid (show RowKit.Below W.heap.size W W.drew from below_drewN (RowKit.Below.refl W.heap.size W) 1)
      have ec : (((C : Nat) : Int) == ((C : Nat) : Int)) = true := by simp
      clear hc1 hc3 ho1 ho3 hW hbW hg1 hg2 hck hon hal E
      go_wp2_with fail
      rw [← HW.out]
      go_region_held3 (fun W' => (W'.cell? ⟨wr.heap.size, 0, none⟩ = some (.int .i64 1) ∧ W'.cell? ⟨wr.heap.size, 1, none⟩ = some (.string n) ∧ W'.cell? ⟨wr.heap.size, 2, none⟩ = some (.string t)) ∧ (W'.cell? ⟨wr.heap.size + 1, 0, none⟩ = some (.int .i64 3) ∧ W'.cell? ⟨wr.heap.size + 1, 1, none⟩ = some (.string n) ∧ W'.cell? ⟨wr.heap.size + 1, 2, none⟩ = some (.string t))) (first | exact HS.out _ HBc.out | exact HS.out _ (below_drewN HBc.out _)) (first
        | (go_at_call 22; go_must ((first | with_reducible refine (HC1.out _ HBc.out).mono ?_ | with_reducible refine (HC1.out _ HBd.out).mono ?_ | with_reducible refine (HC3.out _ HBc.out).mono ?_ | with_reducible refine (HC3.out _ HBd.out).mono ?_); rintro e wq ⟨rfl, hbq⟩; (try (have hq1 := undrewM hbq; clear hbq; have hbq := hq1; clear hq1)); have hq1 := HBc.out.trans (hbq.mono HBc.out.size); have HBc := Lib.hid hq1; clear hq1 hbq))
        | (go_at_call 23; go_must ((first | with_reducible refine (HO1.out _ HBc.out).mono ?_ | with_reducible refine (HO1.out _ HBd.out).mono ?_ | with_reducible refine (HO3.out _ HBc.out).mono ?_ | with_reducible refine (HO3.out _ HBd.out).mono ?_); rintro e wq ⟨rfl, hbq⟩; (try (have hq1 := undrewM hbq; clear hbq; have hbq := hq1; clear hq1)); have hq1 := HBc.out.trans (hbq.mono HBc.out.size); have HBc := Lib.hid hq1; clear hq1 hbq))
        | fail)
      all_goals
        go_wp2
        go_ret
        exact ⟨by cases O <;> rfl, by first | exact HBW.out.trans (HBc.out.mono HBW.out.size) | exact below_drewN (HBW.out.trans (HBc.out.mono HBW.out.size)) _⟩
end

set_option maxRecDepth 100000 in
theorem matchPlain_contract (H : Type) (enc : TypeId × Value → H) (W : World) (base : Nat) (args : Array Value) (ds gs : List (DataW H)) (before : List MemPlace)
    (hval : ∀ (j : Nat) t v, Tryd.f7.params[j]? = some t → args[j]? = some v → Value.okWide Tryd.prog W .any base t v)
    (hW : DataW.Whole enc Tryd.prog Tryd.f7.params.toList Rows.matchPlainSpec.vars false W args.toList ds gs before) (hL : laidMetH Tryd.prog Rows.matchPlainRow.laid W) :
    Calls Tryd.prog 7 args W fun e W' => ∃ v, e = .returned v ∧ Rows.matchPlainSpec.post enc Tryd.prog Tryd.f7 false true false false W args v W' := by
  have hW' := hW
  obtain ⟨p, q, hA0, hV, rfl, hfz, hnd⟩ := hW
  have hA : DataW.TrodAll enc Tryd.prog W 0 (fun _ => true) true Tryd.f7.params.toList args.toList ds p := hA0
  rw [Tryd.params7] at hA hval
  obtain ⟨v0, vs0, d0, ds0, p0, q0, hargs, rfl, rfl, h0, r0⟩ := trodAll_cons hA
  obtain ⟨v1, vs1, d1, ds1, p1, q1, rfl, rfl, rfl, h1, r1⟩ := trodAll_cons r0
  obtain ⟨v2, vs2, d2, ds2, p2, q2, rfl, rfl, rfl, h2, r2⟩ := trodAll_cons r1
  obtain ⟨rfl, rfl, rfl⟩ := trodAll_nil r2
  obtain rfl : args = #[v0, v1, v2] := by cases args; simp_all
  obtain ⟨rfl, rfl⟩ := trodVars_none hV
  obtain ⟨s0, rfl, rfl, rfl, ws0⟩ := open_string Tryd.underlying9 (hval 0 9 v0 rfl rfl) h0
  obtain ⟨s1, rfl, rfl, rfl, ws1⟩ := open_string Tryd.underlying9 (hval 1 9 v1 rfl rfl) h1
  obtain ⟨s2, rfl, rfl, rfl, ws2⟩ := open_string Tryd.underlying9 (hval 2 9 v2 rfl rfl) h2
  clear hA0 hA
  unfold maxLen at ws0
  unfold maxLen at ws1
  unfold maxLen at ws2
  refine (mplain_walk s0 s1 s2 W (tabs hL) ws1).mono fun e W' ⟨he, hg⟩ => ?_
  subst he
  exact ⟨_, rfl, law_end laidOut (by kernel_rfl) (by kernel_rfl) Tryd.underlying4 rfl hW' ⟨rfl, rfl, rfl⟩ hg⟩

theorem matchPlain_met (os : Os) : laidMet Tryd.prog Rows.matchPlainRow.laid ((laidWorld os).forCall (fun _ _ => 0) ⟨#[], #[.string ⟨#[]⟩, .string ⟨#[]⟩, .string ⟨#[]⟩], []⟩).memory :=
  laid_met os _
theorem matchPlain_reads (os : Os) {H : Type} (enc : TypeId × Value → H) : ∃ places, DataW.whole enc Tryd.prog ((laidWorld os).forCall (fun _ _ => 0) ⟨#[], #[.string ⟨#[]⟩, .string ⟨#[]⟩, .string ⟨#[]⟩], []⟩).memory Tryd.f7.params.toList Rows.matchPlainSpec.vars false (#[.string ⟨#[]⟩, .string ⟨#[]⟩, .string ⟨#[]⟩] : Array Value).toList 8 = some ([.lit (.string []), .lit (.string []), .lit (.string [])], [], places) :=
  ⟨[], by kernel_rfl⟩

set_option maxRecDepth 100000 in
theorem matchPlain_lifted (os : Os) (started : os.Started) (H : Type) (enc : TypeId × Value → H) (F : Stop.Interp) :
    ReturnsInHanded {} Tryd.checked os 7 .any ((OpenSpec.ofChange Rows.matchPlainSpec).preRow enc Tryd.prog Tryd.f7 Rows.matchPlainRow.domain false Rows.matchPlainRow.laid) (((OpenSpec.ofChange Rows.matchPlainSpec).at F).post enc Tryd.prog Tryd.f7 false true false false) := by
  obtain ⟨places, hx⟩ := matchPlain_reads os enc
  refine returnsInHanded_of_row (C := Tryd.checked) (s := OpenSpec.ofChange Rows.matchPlainSpec) ownKn started (by kernel_rfl) Tryd.func7
    (witness_row_at (enc := enc) (C := Tryd.checked) false (laidWorld os) #[.string ⟨#[]⟩, .string ⟨#[]⟩, .string ⟨#[]⟩] rfl (by kernel_rfl) (by kernel_rfl) (by kernel_rfl)
      (OpenSpec.preRow_of_cond 8 hx (by kernel_rfl) (fun k hk => by cases hk) (by kernel_rfl) (matchPlain_met os))) ?_
  intro W base args ds gs before hval hW _ _ _ hL _ _
  exact matchPlain_contract H enc W base args ds gs before hval hW hL

theorem matchPlain_said : Rows.MatchPlainSaid :=
  OpenClaim.holds_of_cond 7 Tryd.f7 rfl rfl rfl rfl rfl rfl rfl ⟨rfl, rfl, rfl, rfl, rfl⟩ rfl rfl rfl rfl rfl (by kernel_rfl) Tryd.func7 (by kernel_rfl)
    (of_decide_eq_true (by kernel_rfl)) (by unfold Func.isWrapper; first | (rw [if_pos (by decide +kernel)]; kernel_rfl) | (rw [if_neg (by decide +kernel)]; exact ⟨rfl, rfl⟩))
    (fun os started H enc _ F => by rw [OpenClaim.pre_eq_preRow]; exact matchPlain_lifted os started H enc F)

theorem matchPlain_plain (f : FuncId) (fn : Func) (hf : Tryd.pinned.checked.prog.funcNamed "manometer/manometerlaw07.MatchPlain" = some f) (hfn : Tryd.pinned.checked.prog.funcs[f]? = some fn) :
    true = Tryd.pinned.checked.prog.looks [] ∧ ∀ (j : Nat) t, fn.params[j]? = some t → Tryd.pinned.checked.prog.wantsStandIn t = false := by
  obtain rfl : f = 7 := Option.some.inj ((show Tryd.prog.funcNamed "manometer/manometerlaw07.MatchPlain" = some 7 by kernel_rfl).symm.trans hf) |>.symm
  obtain rfl : fn = Tryd.f7 := (Option.some.inj (Tryd.func7.symm.trans hfn)).symm
  refine ⟨by kernel_rfl, fun j t ht => ?_⟩
  rw [Tryd.params7] at ht
  have hm : t = 9 ∨ t = 9 ∨ t = 9 := by simpa using Array.mem_of_getElem? ht
  rcases hm with rfl | rfl | rfl
  · exact (show Tryd.prog.wantsStandIn 9 = false by kernel_rfl)
  · exact (show Tryd.prog.wantsStandIn 9 = false by kernel_rfl)
  · exact (show Tryd.prog.wantsStandIn 9 = false by kernel_rfl)

theorem matchPlain_card : Rows.MatchPlainCardSaid :=
  Claim7.holds_tied_plain_at .later [] _ _ _ _ matchPlain_said (fun _ h => by cases h) (by kernel_rfl) (fun _ h => by cases h) matchPlain_row_tie rfl ⟨rfl, rfl⟩ (by kernel_rfl) rfl matchPlain_plain (by kernel_rfl)
#print axioms matchPlain_card

end Go.Proofs.YtalcbbpghfdeeaaDoor
