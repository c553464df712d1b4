/-
  WalNone (P12.1, P12.2): a log that no call made, and one of a disk that none made, are told. The condition is the tables' and the library's two errors': they hold what their initialisers lay, which the card ties to the program's text.
-/
import Derived.Test.YtnmbjhpecblioaaGreatDoorWv
import Derived.Test.YtnmbjhpecblioaaGreatDoorWz
import Derived.Test.YtnmbjhpecblioaaGreatDoorWop
import Derived.Test.YtnmbjhpecblioaaGreatDoorWl
namespace Go.Proofs.YtnmbjhpecblioaaGreatDoor
set_option linter.unusedVariables false
set_option linter.unusedSimpArgs false
open Go.ChangeShapes Go.WideShapes Go.ChangeAt Go.RowKit
section
set_option maxHeartbeats 3200000
set_option maxRecDepth 100000
theorem walNone_walk (o : OpW) (W : World) (hT : TabW W) (ho : OpWOk W o) :
    Calls Tryz.prog 8 #[.agg (opW o).toArray] W fun e w' => e = .returned (.bool true) ∧ Below W.heap.size W w' := by
  obtain ⟨kd, n, more, A, c, bs, nm⟩ := o
  obtain ⟨W1, hW1⟩ : ∃ W1, W1 = W.alloc (.cells #[.int .i64 kd, .int .i64 n, .int .u16 (more : Nat), .slice A bs.length c, .string nm] 31) := ⟨_, rfl⟩
  have hb1 : Below W.heap.size W W1 := by rw [hW1]; exact (Below.refl _ W).alloc (Nat.le_refl _) _
  have hbx : W1.heap[W.heap.size]? = some (.cells #[.int .i64 kd, .int .i64 n, .int .u16 (more : Nat), .slice A bs.length c, .string nm] 31 (0, 0)) := by rw [hW1]; exact heap_alloc_new W _
  have HBX := Lib.hid (show ∀ W', Below W1.heap.size W1 W' → W'.cell? ⟨W.heap.size, 1, none⟩ = some (.int .i64 n) ∧ W'.cell? ⟨W.heap.size, 3, none⟩ = some (.slice A bs.length c) from fun W' hb => by
    have h0 := (hb.block _ (blk_lt hbx)).trans hbx
    exact ⟨cell_blk h0 1, cell_blk h0 3⟩)
  have HB1 := Lib.hid hb1; have HW1 := Lib.hid hW1; have HT := Lib.hid (hT.below hb1)
  unfold opW
  clear hb1 hbx hW1 hT
  simp only
  go_enter Tryz.func8, Tryz.ntmps8
  go_wp2_with fail
  rw [← HW1.out]
  go_wp2_with fail
  with_reducible refine (wlive_any W1 HT.out).mono ?_
  rintro e w2 ⟨rfl, hb2⟩
  have HB2 := Lib.hid hb2
  obtain ⟨d1, d3⟩ := HBX.out w2 hb2
  clear hb2
  by_cases hbig : 1000 < bs.length
  · have g1 : (1000 : Int) < (bs.length : Int) := by omega
    go_wp2_with fail
    with_reducible refine (wlive_any w2 (HT.out.below HB2.out)).mono ?_
    rintro e w3 ⟨rfl, hb3⟩
    have HB3 := Lib.hid (HB1.out.trans ((HB2.out.trans (hb3.mono HB2.out.size)).mono HB1.out.size))
    clear hb3
    go_wp2
    go_ret
    exact ⟨rfl, HB3.out⟩
  · have g1 : ¬ (1000 : Int) < (bs.length : Int) := by omega
    obtain ⟨w3, hw3⟩ : ∃ w3, w3 = w2.alloc (.cells #[.pointer none, .int .i64 0, .int .i64 0, .int .i64 0] 69) := ⟨_, rfl⟩
    have hb3 : Below w2.heap.size w2 w3 := by rw [hw3]; exact (Below.refl _ w2).alloc (Nat.le_refl _) _
    have hz : w3.heap[w2.heap.size]? = some (.cells #[.pointer none, .int .i64 0, .int .i64 0, .int .i64 0] 69 (0, 0)) := by rw [hw3]; exact heap_alloc_new w2 _
    obtain ⟨w4, hw4⟩ : ∃ w4, w4 = w3.alloc (.cells #[.map none, .int .i64 0] 72) := ⟨_, rfl⟩
    have hb4 : Below w3.heap.size w3 w4 := by rw [hw4]; exact (Below.refl _ w3).alloc (Nat.le_refl _) _
    have hdz : w4.heap[w3.heap.size]? = some (.cells #[.map none, .int .i64 0] 72 (0, 0)) := by rw [hw4]; exact heap_alloc_new w3 _
    have hz4 := (hb4.block _ (blk_lt hz)).trans hz
    have HUL : UnmadeW w4 none := wmade_nil w4
    have HUZ : UnmadeW w4 (some ⟨w2.heap.size, 0, none⟩) := wmade_zero (by have := cell_blk hz4 0; simpa using this)
    have HUD : UnmadeD w3 none := made_nil w3
    have HUE : UnmadeD w4 (some ⟨w3.heap.size, 0, none⟩) := made_zero hdz
    have H1 := Lib.hid HUL; have H2 := Lib.hid HUZ; have H3 := Lib.hid HUD; have H4 := Lib.hid HUE
    have HB4 := Lib.hid (HB2.out.trans ((hb3.trans (hb4.mono hb3.size)).mono HB2.out.size))
    have HW3 := Lib.hid hw3; have HW4 := Lib.hid hw4
    obtain ⟨e1, e3⟩ := HBX.out w4 HB4.out
    clear hw3 hb3 hz hw4 hb4 hdz hz4 HUL HUZ HUD HUE
    go_wp2_with fail
    rw [← HW3.out]
    go_wp2_with fail
    with_reducible refine (wopen_not H3.out).mono ?_
    rintro e x ⟨rfl, rfl⟩
    go_wp2_with fail
    rw [← HW4.out]
    go_wp2_with fail
    with_reducible refine (wopen_not H4.out).mono ?_
    rintro e x ⟨rfl, rfl⟩
    go_wp2_with fail
    with_reducible refine (wappend_not H1.out _).mono ?_
    rintro e x ⟨rfl, rfl⟩
    go_wp2_with fail
    with_reducible refine (wappend_not H2.out _).mono ?_
    rintro e x ⟨rfl, rfl⟩
    go_wp2_with fail
    with_reducible refine (wsync_not H1.out).mono ?_
    rintro e x ⟨rfl, rfl⟩
    go_wp2_with fail
    with_reducible refine (roll_not H2.out).mono ?_
    rintro e x ⟨rfl, rfl⟩
    go_wp2_with fail
    with_reducible refine (drop_not H1.out n).mono ?_
    rintro e x ⟨rfl, rfl⟩
    go_wp2_with fail
    with_reducible refine (wcount_not H1.out).mono ?_
    rintro e x ⟨rfl, rfl⟩
    go_wp2_with fail
    with_reducible refine (wsure_not H2.out).mono ?_
    rintro e x ⟨rfl, rfl⟩
    go_wp2_with fail
    with_reducible refine (wsegment_not H1.out).mono ?_
    rintro e x ⟨rfl, rfl⟩
    go_wp2_with fail
    with_reducible refine (wsegs_not H2.out).mono ?_
    rintro e x ⟨rfl, rfl⟩
    go_wp2_with fail
    with_reducible refine (wsize_not H1.out).mono ?_
    rintro e x ⟨rfl, rfl⟩
    go_wp2
    go_ret
    exact ⟨rfl, HB1.out.trans (HB4.out.mono HB1.out.size)⟩
end

set_option maxRecDepth 100000 in
theorem walNone_contract (H : Type) (enc : TypeId × Value → H) (W : World) (base : Nat) (args : Array Value) (ds gs : List (DataW H)) (before : List MemPlace)
    (hval : ∀ (j : Nat) t v, Tryz.f8.params[j]? = some t → args[j]? = some v → Value.okWide Tryz.prog W .any base t v)
    (hW : DataW.Whole enc Tryz.prog Tryz.f8.params.toList Rows.walNoneSpec.vars false W args.toList ds gs before) (hL : laidMetH Tryz.prog Rows.walNoneRow.laid W) :
    Calls Tryz.prog 8 args W fun e W' => ∃ v, e = .returned v ∧ Rows.walNoneSpec.post enc Tryz.prog Tryz.f8 false true false false W args v W' := by
  have hW' := hW
  have hT : TabW W := wtables hL
  obtain ⟨p, q, hA0, hV, rfl, hfz, hnd⟩ := hW
  have hA : DataW.TrodAll enc Tryz.prog W 0 (fun _ => true) true Tryz.f8.params.toList args.toList ds p := hA0
  rw [Tryz.params8] at hA hval
  obtain ⟨v0, vs0, d0, ds0, p0, q0, hargs, rfl, rfl, h0, r0⟩ := trodAll_cons hA
  obtain ⟨rfl, rfl, rfl⟩ := trodAll_nil r0
  obtain rfl : args = #[v0] := by cases args; simp_all
  obtain ⟨rfl, rfl⟩ := trodVars_none hV
  obtain ⟨o0, rfl, ho0⟩ := open_op (hval 0 31 v0 rfl rfl) h0
  clear hA0 hA
  refine (walNone_walk o0 W hT ho0).mono fun e W' ⟨he, hg⟩ => ?_
  subst he
  exact ⟨_, rfl, law_end laidOut (by kernel_rfl) (by kernel_rfl) Tryz.underlying4 rfl hW' ⟨rfl, rfl, rfl⟩ hg⟩

theorem walNone_met (os : Os) : laidMet Tryz.prog Rows.walNoneRow.laid ((wworld os).forCall (fun _ _ => 0) ⟨#[], #[.agg #[.int .i64 0, .int .i64 0, .int .u16 0, .slice none 0 0, .string ⟨#[]⟩]], []⟩).memory := wworld_met os _
theorem walNone_reads (os : Os) {H : Type} (enc : TypeId × Value → H) : ∃ places, DataW.whole enc Tryz.prog ((wworld os).forCall (fun _ _ => 0) ⟨#[], #[.agg #[.int .i64 0, .int .i64 0, .int .u16 0, .slice none 0 0, .string ⟨#[]⟩]], []⟩).memory Tryz.f8.params.toList Rows.walNoneSpec.vars false (#[.agg #[.int .i64 0, .int .i64 0, .int .u16 0, .slice none 0 0, .string ⟨#[]⟩]] : Array Value).toList 8 = some ([.agg [.lit (.int .i64 0), .lit (.int .i64 0), .lit (.int .u16 0), .nil, .lit (.string [])]], [], places) :=
  ⟨[], by kernel_rfl⟩

set_option maxRecDepth 100000 in
theorem walNone_lifted (os : Os) (started : os.Started) (H : Type) (enc : TypeId × Value → H) (F : Stop.Interp) :
    ReturnsInHanded {} Tryz.checked os 8 .any ((OpenSpec.ofChange Rows.walNoneSpec).preRow enc Tryz.prog Tryz.f8 Rows.walNoneRow.domain false Rows.walNoneRow.laid) (((OpenSpec.ofChange Rows.walNoneSpec).at F).post enc Tryz.prog Tryz.f8 false true false false) := by
  obtain ⟨places, hx⟩ := walNone_reads os enc
  refine returnsInHanded_of_row (C := Tryz.checked) (s := OpenSpec.ofChange Rows.walNoneSpec) ownKn started (by kernel_rfl) Tryz.func8
    (witness_row_atRef (enc := enc) (C := Tryz.checked) false (wworld os) #[.agg #[.int .i64 0, .int .i64 0, .int .u16 0, .slice none 0 0, .string ⟨#[]⟩]] (World.laidAll_os _ _ _) (by kernel_rfl) (by kernel_rfl) (by kernel_rfl)
      (OpenSpec.preRow_of_cond 8 hx (by kernel_rfl) (fun k hk => by cases hk) (by kernel_rfl) (walNone_met os))) ?_
  intro W base args ds gs before hval hW _ _ _ hL _ _
  exact walNone_contract H enc W base args ds gs before hval hW hL

theorem walNone_said : Rows.WalNoneSaid :=
  OpenClaim.holds_of_cond 8 Tryz.f8 rfl rfl rfl rfl rfl rfl rfl ⟨rfl, rfl, rfl, rfl, rfl⟩ rfl rfl rfl rfl rfl (by kernel_rfl) Tryz.func8 (by kernel_rfl)
    (of_decide_eq_true (by kernel_rfl)) (by unfold Func.isWrapper; first | (rw [if_pos (by decide +kernel)]; kernel_rfl) | (rw [if_neg (by decide +kernel)]; exact ⟨rfl, rfl⟩))
    (fun os started H enc _ F => by rw [OpenClaim.pre_eq_preRow]; exact walNone_lifted os started H enc F)

theorem walNone_plain (f : FuncId) (fn : Func) (hf : Tryz.pinned.checked.prog.funcNamed "manometer/manometerlaw12.WalNone" = some f) (hfn : Tryz.pinned.checked.prog.funcs[f]? = some fn) :
    true = Tryz.pinned.checked.prog.looks [] ∧ ∀ (j : Nat) t, fn.params[j]? = some t → Tryz.pinned.checked.prog.wantsStandIn t = false := by
  obtain rfl : f = 8 := Option.some.inj ((show Tryz.prog.funcNamed "manometer/manometerlaw12.WalNone" = some 8 by kernel_rfl).symm.trans hf) |>.symm
  obtain rfl : fn = Tryz.f8 := (Option.some.inj (Tryz.func8.symm.trans hfn)).symm
  refine ⟨by kernel_rfl, fun j t ht => ?_⟩
  rw [Tryz.params8] at ht
  have hm : t = 31 := by simpa using Array.mem_of_getElem? ht
  rcases hm with rfl
  · exact (show Tryz.prog.wantsStandIn 31 = false by kernel_rfl)

theorem walNone_card : Rows.WalNoneCardSaid :=
  Claim7.holds_tied_plain_at .later [] _ _ _ _ walNone_said (fun _ h => by cases h) (by kernel_rfl) (fun _ h => by cases h) walNone_row_tie rfl ⟨rfl, rfl⟩ (by kernel_rfl) rfl walNone_plain (by kernel_rfl)
#print axioms walNone_card

end Go.Proofs.YtnmbjhpecblioaaGreatDoor
