/-
  RecordPuts (P13.2): for all records, what Put, Check and Size say is what the plain answers say. The condition is the library's two tables': they hold what their initialisers lay, which the card ties to the program's text.
-/
import Derived.Deep.RegionHeld3
import Derived.Test.YtgogpngobdafaaaDoorJl
import Derived.Test.YtgogpngobdafaaaDoorJi
namespace Go.Proofs.YtgogpngobdafaaaDoor
set_option linter.unusedVariables false
set_option linter.unusedSimpArgs false
open Go.ChangeShapes Go.WideShapes Go.ChangeAt Go.RowKit
theorem undrewJ3 {w w' : World} (h : RowKit.Below w.drew.heap.size w.drew w') : RowKit.Below w.heap.size w w' := ⟨h.os, h.tape, h.output, h.size, h.block⟩
theorem below_drewJ3 {B : Nat} {w w' : World} (h : RowKit.Below B w w') : RowKit.Below B w w'.drew := ⟨h.os, h.tape, h.output, h.size, h.block⟩
theorem put_rd3 {w w' : World} {r : Nat × Bs} {e : Ending} (h : PutRes w r e w') : ∃ A c, e = .returned (.tuple #[.slice A r.2.length c, .int .i64 (r.1 : Nat)]) ∧ Rd w' A (r.2.map Bv) ∧ Below w.heap.size w w' := by
  obtain ⟨A, c, he, ho, hb⟩ := h
  obtain ⟨A', c', e', hr, -, h2, h3⟩ := own_rd ho
  injection e' with e1 _ e2
  subst e1; subst e2
  exact ⟨A, c, he, hr, hb⟩
section
set_option maxHeartbeats 3200000
set_option maxRecDepth 100000
theorem rputs_walk (x : Rv) (w : World) (hT : Tabs w) (hx : RvIn w x) :
    Calls Tryd.prog 3 #[.agg (rvC x)] w fun e w' => e = .returned (.bool true) ∧ Below w.heap.size w w' := by
  have hlive := fun W (hb : Below w.heap.size w W) => liveJ_any W (hT.below hb)
  have hfew := fun W (hb : Below w.heap.size w W) => fewJ_any x W (hx.is.below hb) hx.la.1
  have hft := @fewR_of x.p
  have hput := fun W (hb : Below w.heap.size w W) (hf : Few x.ls) (hl : x.ps.length ≤ 1000000) => put_any x W (hT.below hb) (hx.is.below hb) hf hl hx.ok
  have hrpu := fun W (hb : Below w.heap.size w W) (hf : Few x.ls) (hl : x.ps.length ≤ 1000000) => rput13_any x W (hx.is.below hb) hf hl hx.ok
  have hchk := fun W (hb : Below w.heap.size w W) (hf : Few x.ls) (hl : x.ps.length ≤ 1000000) => check_any x W (hT.below hb) (hx.is.below hb) hf hl
  have hrch := fun W (hb : Below w.heap.size w W) (hf : Few x.ls) (hl : x.ps.length ≤ 1000000) => rcheck_any x W (hx.is.below hb) hf hl
  have hsiz := fun W (hb : Below w.heap.size w W) (hf : Few x.ls) (hl : x.ps.length ≤ 1000000) => size_any x W (hT.below hb) (hx.is.below hb) hf hl hx.ok
  have hplen : (putR x.p).2.length ≤ 100000 := by
    unfold putR
    by_cases h : checkR x.p ≠ 0
    · rw [if_pos h]; simp
    · rw [if_neg h]; exact rowR_le (by omega) hx.ok.1
  have hb := (RowKit.Below.refl w.heap.size w).alloc (Nat.le_refl _) (.cells (rvC x) 27)
  have hbx0 := heap_alloc_new w (.cells (rvC x) 27)
  generalize fewR x.p = q at hfew hft
  generalize putR x.p = PR at hput hrpu hsiz hplen
  obtain ⟨pe, prow⟩ := PR
  generalize checkR x.p = ck at hchk hrch
  simp only at hplen hsiz
  obtain ⟨w0, hw0⟩ : ∃ w0, w0 = w.alloc (.cells (rvC x) 27) := ⟨_, rfl⟩
  rw [← hw0] at hb hbx0
  have HL := Lib.hid hlive; have HF := Lib.hid hfew; have HFT := Lib.hid hft; have HPU := Lib.hid hput; have HRP := Lib.hid hrpu; have HCH := Lib.hid hchk; have HRC := Lib.hid hrch; have HSZ := Lib.hid hsiz; have HLE := Lib.hid hplen
  clear hlive hfew hft hput hrpu hchk hrch hsiz hplen hT hx
  obtain ⟨kd, r, A, ca, ls, Bp, cp, ps⟩ := x
  have hxv : rvC ⟨kd, r, A, ca, ls, Bp, cp, ps⟩ = #[.int .i64 kd, .int .u32 (r : Nat), .slice A ls.length ca, .slice Bp ps.length cp] := rfl
  rw [hxv] at hw0 hbx0 HF HPU HRP HCH HRC HSZ ⊢
  clear hxv
  have HW0 := Lib.hid hw0; have HB := Lib.hid hb; have HBX := Lib.hid hbx0
  clear hw0 hb hbx0
  go_enter Tryd.func3, Tryd.ntmps3
  go_wp2_with fail
  rw [← HW0.out]
  refine (HL.out _ HB.out).mono ?_
  rintro e w1 ⟨rfl, hb⟩
  have hbx := (hb.block _ (blk_lt HBX.out)).trans HBX.out
  have b0 := cell_blk hbx 0; have b1 := cell_blk hbx 1; have b2 := cell_blk hbx 2; have b3 := cell_blk hbx 3
  simp only [List.getElem?_toArray, List.getElem?_cons_zero, List.getElem?_cons_succ] at b0 b1 b2 b3
  have HBX := Lib.hid hbx
  have HB := Lib.hid (HB.out.trans (hb.mono HB.out.size))
  clear hbx
  clear hb
  cases q with
  | false =>
    go_wp2_with fail
    refine (HF.out _ HB.out).mono ?_
    rintro e w2 ⟨rfl, hb⟩
    have HB := Lib.hid (HB.out.trans (hb.mono HB.out.size))
    go_wp2_with fail
    refine (HL.out _ HB.out).mono ?_
    rintro e w3 ⟨rfl, hb⟩
    have HB := Lib.hid (HB.out.trans (hb.mono HB.out.size))
    go_wp2
    go_ret
    exact ⟨rfl, HB.out⟩
  | true =>
    obtain ⟨hfw, hls, hps⟩ := HFT.out rfl
    have hls' : ls.length ≤ 40 := hls
    have hps' : ps.length ≤ 400 := hps
    have HPU := Lib.hid (fun W hb => HPU.out W hb hfw (by show ps.length ≤ _; omega)); have HRP := Lib.hid (fun W hb => HRP.out W hb hfw (by show ps.length ≤ _; omega)); have HCH := Lib.hid (fun W hb => HCH.out W hb hfw (by show ps.length ≤ _; omega)); have HRC := Lib.hid (fun W hb => HRC.out W hb hfw (by show ps.length ≤ _; omega)); have HSZ := Lib.hid (fun W hb => HSZ.out W hb hfw (by show ps.length ≤ _; omega))
    clear hfw hls hps hls' hps' HFT
    go_wp2_with fail
    refine (HF.out _ HB.out).mono ?_
    rintro e w2 ⟨rfl, hb⟩
    clear b0 b1 b2 b3
    have hbx := (hb.block _ (blk_lt HBX.out)).trans HBX.out
    have b0 := cell_blk hbx 0; have b1 := cell_blk hbx 1; have b2 := cell_blk hbx 2; have b3 := cell_blk hbx 3
    simp only [List.getElem?_toArray, List.getElem?_cons_zero, List.getElem?_cons_succ] at b0 b1 b2 b3
    have HBX := Lib.hid hbx
    have HB := Lib.hid (HB.out.trans (hb.mono HB.out.size))
    clear hbx hb
    go_wp2_with fail
    refine (HPU.out _ HB.out).mono ?_
    rintro e w3 hpu
    obtain ⟨Ap, cpp, rfl, hrp, hb⟩ := put_rd3 hpu
    simp only at hrp ⊢
    clear b0 b1 b2 b3
    have hbx := (hb.block _ (blk_lt HBX.out)).trans HBX.out
    have b0 := cell_blk hbx 0; have b1 := cell_blk hbx 1; have b2 := cell_blk hbx 2; have b3 := cell_blk hbx 3
    simp only [List.getElem?_toArray, List.getElem?_cons_zero, List.getElem?_cons_succ] at b0 b1 b2 b3
    have HBX := Lib.hid hbx
    have HB := Lib.hid (HB.out.trans (hb.mono HB.out.size))
    have HR1 := Lib.hid hrp
    clear hbx hb hpu hrp
    go_wp2_with fail
    refine (HRP.out _ HB.out).mono ?_
    rintro e w4 ⟨Aq, cq, rfl, hrq, hb⟩
    simp only at hrq ⊢
    clear b0 b1 b2 b3
    have hbx := (hb.block _ (blk_lt HBX.out)).trans HBX.out
    have HB0 := Lib.hid (HB.out.trans (hb.mono HB.out.size))
    have heq : ∀ W, Below w4.heap.size w4 W → Calls Tryd.prog 17 #[.slice Ap prow.length cpp, .slice Aq prow.length cq] W fun e w' => e = .returned (.bool true) ∧ Below W.heap.size W w' := fun W hbW =>
      (equal_any Ap Aq cpp cq prow prow W ((HR1.out.below hb).below hbW) (hrq.below hbW) (by have := HLE.out; omega) (by have := HLE.out; omega)).mono fun e w' h => by
        obtain ⟨rfl, n, rfl⟩ := h
        exact ⟨by rw [decide_eq_true rfl], below_drewN (RowKit.Below.refl _ _) n⟩
    have up : ∀ W, Below w4.heap.size w4 W → Below w.heap.size w W := fun W hbW => HB0.out.trans (hbW.mono HB0.out.size)
    have HEQ := Lib.hid heq
    have HCH := Lib.hid (fun W hbW => HCH.out W (up W hbW)); have HRC := Lib.hid (fun W hbW => HRC.out W (up W hbW)); have HSZ := Lib.hid (fun W hbW => HSZ.out W (up W hbW))
    have hce := fun W (hbW : Below w4.heap.size w4 W) => show W.cell? ⟨w.heap.size, 0, none⟩ = some (.int .i64 kd) ∧ W.cell? ⟨w.heap.size, 1, none⟩ = some (.int .u32 (r : Nat)) ∧ W.cell? ⟨w.heap.size, 2, none⟩ = some (.slice A ls.length ca) ∧ W.cell? ⟨w.heap.size, 3, none⟩ = some (.slice Bp ps.length cp) from
      have h := (hbW.block _ (blk_lt hbx)).trans hbx
      ⟨cell_blk h 0, cell_blk h 1, cell_blk h 2, cell_blk h 3⟩
    have HCE := Lib.hid hce
    have HB := Lib.hid (RowKit.Below.refl w4.heap.size w4)
    clear hbx hb heq up hce hrq HR1 HPU HRP HF HL HBX HLE
    go_wp2_with fail
    go_region_held3 (fun W' => W'.cell? ⟨w.heap.size, 0, none⟩ = some (.int .i64 kd) ∧ W'.cell? ⟨w.heap.size, 1, none⟩ = some (.int .u32 (r : Nat)) ∧ W'.cell? ⟨w.heap.size, 2, none⟩ = some (.slice A ls.length ca) ∧ W'.cell? ⟨w.heap.size, 3, none⟩ = some (.slice Bp ps.length cp)) (first | exact HCE.out _ HB.out | exact HCE.out _ (below_drewJ3 HB.out)) (first
        | (go_at_call 17; ((with_reducible refine (HEQ.out _ (by first | exact HB.out | exact below_drewJ3 HB.out)).mono ?_); rintro e wq ⟨rfl, hbq⟩; (try (have hq1 := undrewJ3 hbq; clear hbq; have hbq := hq1; clear hq1)); have hq2 := HB.out.trans (hbq.mono HB.out.size); have HB := Lib.hid hq2; clear hq2 hbq))
        | (go_at_call 18; ((with_reducible refine (HCH.out _ (by first | exact HB.out | exact below_drewJ3 HB.out)).mono ?_); rintro e wq ⟨rfl, hbq⟩; (try (have hq1 := undrewJ3 hbq; clear hbq; have hbq := hq1; clear hq1)); have hq2 := HB.out.trans (hbq.mono HB.out.size); have HB := Lib.hid hq2; clear hq2 hbq))
        | (go_at_call 19; ((with_reducible refine (HRC.out _ (by first | exact HB.out | exact below_drewJ3 HB.out)).mono ?_); rintro e wq ⟨rfl, hbq⟩; (try (have hq1 := undrewJ3 hbq; clear hbq; have hbq := hq1; clear hq1)); have hq2 := HB.out.trans (hbq.mono HB.out.size); have HB := Lib.hid hq2; clear hq2 hbq))
        | (go_at_call 20; ((with_reducible refine (HSZ.out _ (by first | exact HB.out | exact below_drewJ3 HB.out)).mono ?_); rintro e wq ⟨rfl, hbq⟩; (try (have hq1 := undrewJ3 hbq; clear hbq; have hbq := hq1; clear hq1)); have hq2 := HB.out.trans (hbq.mono HB.out.size); have HB := Lib.hid hq2; clear hq2 hbq))
        | fail)
    all_goals
      go_wp2
      go_ret
      first
        | exact ⟨by simp, HB0.out.trans (HB.out.mono HB0.out.size)⟩
        | exact ⟨rfl, HB0.out.trans (HB.out.mono HB0.out.size)⟩
        | exact ⟨rfl, HB0.out.trans ((below_drewN HB.out 1).mono HB0.out.size)⟩
end

set_option maxRecDepth 100000 in
theorem recordPuts_contract (H : Type) (enc : TypeId × Value → H) (W : World) (base : Nat) (args : Array Value) (ds gs : List (DataW H)) (before : List MemPlace)
    (hval : ∀ (j : Nat) t v, Tryd.f3.params[j]? = some t → args[j]? = some v → Value.okWide Tryd.prog W .any base t v)
    (hW : DataW.Whole enc Tryd.prog Tryd.f3.params.toList Rows.recordPutsSpec.vars false W args.toList ds gs before) (hL : laidMetH Tryd.prog Rows.recordPutsRow.laid W) :
    Calls Tryd.prog 3 args W fun e W' => ∃ v, e = .returned v ∧ Rows.recordPutsSpec.post enc Tryd.prog Tryd.f3 false true false false W args v W' := by
  have hW' := hW
  obtain ⟨p, q, hA0, hV, rfl, hfz, hnd⟩ := hW
  have hA : DataW.TrodAll enc Tryd.prog W 0 (fun _ => true) true Tryd.f3.params.toList args.toList ds p := hA0
  rw [Tryd.params3] at hA hval
  obtain ⟨v0, vs0, d0, ds0, p0, q0, hargs, rfl, rfl, h0, r0⟩ := trodAll_cons hA
  obtain ⟨rfl, rfl, rfl⟩ := trodAll_nil r0
  obtain rfl : args = #[v0] := by cases args; simp_all
  obtain ⟨rfl, rfl⟩ := trodVars_none hV
  obtain ⟨x0, rfl, hx0⟩ := open_record (hval 0 27 v0 rfl rfl) h0
  clear hA0 hA
  refine (rputs_walk x0 W (tabs hL) hx0).mono fun e W' ⟨he, hg⟩ => ?_
  subst he
  exact ⟨_, rfl, law_end laidOut (by kernel_rfl) (by kernel_rfl) Tryd.underlying4 rfl hW' ⟨rfl, rfl, rfl⟩ hg⟩

theorem recordPuts_met (os : Os) : laidMet Tryd.prog Rows.recordPutsRow.laid ((laidWorld os).forCall (fun _ _ => 0) ⟨#[], #[.agg #[.int .i64 0, .int .u32 0, .slice none 0 0, .slice none 0 0]], []⟩).memory :=
  laid_met os _
theorem recordPuts_reads (os : Os) {H : Type} (enc : TypeId × Value → H) : ∃ places, DataW.whole enc Tryd.prog ((laidWorld os).forCall (fun _ _ => 0) ⟨#[], #[.agg #[.int .i64 0, .int .u32 0, .slice none 0 0, .slice none 0 0]], []⟩).memory Tryd.f3.params.toList Rows.recordPutsSpec.vars false (#[.agg #[.int .i64 0, .int .u32 0, .slice none 0 0, .slice none 0 0]] : Array Value).toList 8 = some ([.agg [.lit (.int .i64 0), .lit (.int .u32 0), .nil, .nil]], [], places) :=
  ⟨[], by kernel_rfl⟩

set_option maxRecDepth 100000 in
theorem recordPuts_lifted (os : Os) (started : os.Started) (H : Type) (enc : TypeId × Value → H) (F : Stop.Interp) :
    ReturnsInHanded {} Tryd.checked os 3 .any ((OpenSpec.ofChange Rows.recordPutsSpec).preRow enc Tryd.prog Tryd.f3 Rows.recordPutsRow.domain false Rows.recordPutsRow.laid) (((OpenSpec.ofChange Rows.recordPutsSpec).at F).post enc Tryd.prog Tryd.f3 false true false false) := by
  obtain ⟨places, hx⟩ := recordPuts_reads os enc
  refine returnsInHanded_of_row (C := Tryd.checked) (s := OpenSpec.ofChange Rows.recordPutsSpec) ownKn started (by kernel_rfl) Tryd.func3
    (witness_row_at (enc := enc) (C := Tryd.checked) false (laidWorld os) #[.agg #[.int .i64 0, .int .u32 0, .slice none 0 0, .slice none 0 0]] rfl (by kernel_rfl) (by kernel_rfl) (by kernel_rfl)
      (OpenSpec.preRow_of_cond 8 hx (by kernel_rfl) (fun k hk => by cases hk) (by kernel_rfl) (recordPuts_met os))) ?_
  intro W base args ds gs before hval hW _ _ _ hL _ _
  exact recordPuts_contract H enc W base args ds gs before hval hW hL

theorem recordPuts_said : Rows.RecordPutsSaid :=
  OpenClaim.holds_of_cond 3 Tryd.f3 rfl rfl rfl rfl rfl rfl rfl ⟨rfl, rfl, rfl, rfl, rfl⟩ rfl rfl rfl rfl rfl (by kernel_rfl) Tryd.func3 (by kernel_rfl)
    (of_decide_eq_true (by kernel_rfl)) (by unfold Func.isWrapper; first | (rw [if_pos (by decide +kernel)]; kernel_rfl) | (rw [if_neg (by decide +kernel)]; exact ⟨rfl, rfl⟩))
    (fun os started H enc _ F => by rw [OpenClaim.pre_eq_preRow]; exact recordPuts_lifted os started H enc F)

theorem recordPuts_plain (f : FuncId) (fn : Func) (hf : Tryd.pinned.checked.prog.funcNamed "manometer/manometerlaw13.RecordPuts" = some f) (hfn : Tryd.pinned.checked.prog.funcs[f]? = some fn) :
    false = Tryd.pinned.checked.prog.looks [] ∧ ∀ (j : Nat) t, fn.params[j]? = some t → Tryd.pinned.checked.prog.wantsStandIn t = false := by
  obtain rfl : f = 3 := Option.some.inj ((show Tryd.prog.funcNamed "manometer/manometerlaw13.RecordPuts" = some 3 by kernel_rfl).symm.trans hf) |>.symm
  obtain rfl : fn = Tryd.f3 := (Option.some.inj (Tryd.func3.symm.trans hfn)).symm
  refine ⟨by kernel_rfl, fun j t ht => ?_⟩
  rw [Tryd.params3] at ht
  have hm : t = 27 := by simpa using Array.mem_of_getElem? ht
  rcases hm with rfl
  · exact (show Tryd.prog.wantsStandIn 27 = false by kernel_rfl)

theorem recordPuts_card : Rows.RecordPutsCardSaid :=
  Claim7.holds_tied_plain_at .later [] _ _ _ _ recordPuts_said (fun _ h => by cases h) (by kernel_rfl) (fun _ h => by cases h) recordPuts_row_tie rfl ⟨rfl, rfl⟩ (by kernel_rfl) rfl recordPuts_plain (by kernel_rfl)
#print axioms recordPuts_card
end Go.Proofs.YtgogpngobdafaaaDoor
