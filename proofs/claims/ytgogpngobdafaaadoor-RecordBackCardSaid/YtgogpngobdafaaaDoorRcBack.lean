/-
  RecordBack (P13.4): for all records, bytes and places, records that may be are got again of their bytes; with bytes behind them, and cut off, they are none; bytes that are taken are those of the record. The condition is the library's two tables': they hold what their initialisers lay, which the card ties to the program's text.
-/
import Derived.Test.YtgogpngobdafaaaDoorJl
import Derived.Test.YtgogpngobdafaaaDoorJn
namespace Go.Proofs.YtgogpngobdafaaaDoor
set_option linter.unusedVariables false
set_option linter.unusedSimpArgs false
open Go.ChangeShapes Go.WideShapes Go.ChangeAt Go.RowKit
theorem join_twoO (w : World) (A0 A1 : Option Addr) (c0 c1 : Nat) (x0 x1 Y : Bs) (h0 : Rd w A0 (x0.map Bv)) (h1 : Rd w A1 (x1.map Bv)) (hY : Y = x0 ++ x1) (hl : Y.length ≤ 140737488351232) :
    Calls Tryd.prog 25 #[.slice (some ⟨w.heap.size, 0, none⟩) 2 2] (w.alloc (.cells #[.slice A0 x0.length c0, .slice A1 x1.length c1] 30)) fun e w' =>
      ∃ A c, e = .returned (.slice A Y.length c) ∧ Rd w' A (Y.map Bv) ∧ (Y.length ≤ c ∧ c ≤ maxLen) ∧ Below w.heap.size w w' := by
  refine (join_here w [(A0, c0, x0), (A1, c1, x1)] 2 rfl (by
    intro q hq
    simp only [List.mem_cons, List.not_mem_nil, or_false] at hq
    rcases hq with rfl | rfl
    · exact h0
    · exact h1) Y (by rw [hY]; simp [joined]) hl (by decide)).mono ?_
  rintro e w' ⟨A, c, rfl, ho, hb⟩
  obtain ⟨A', c', e', hr, -, h2, h3⟩ := own_rd ho
  injection e' with e1 _ e2
  subst e1; subst e2
  exact ⟨A, c, rfl, hr, ⟨h2, h3⟩, hb⟩
theorem put_rd {w w' : World} {r : Nat × Bs} {e : Ending} (h : PutRes w r e w') : ∃ A c, e = .returned (.tuple #[.slice A r.2.length c, .int .i64 (r.1 : Nat)]) ∧ Rd w' A (r.2.map Bv) ∧ (r.2.length ≤ c ∧ c ≤ maxLen) ∧ Below w.heap.size w w' := by
  obtain ⟨A, c, he, ho, hb⟩ := h
  obtain ⟨A', c', e', hr, -, h2, h3⟩ := own_rd ho
  injection e' with e1 _ e2
  subst e1; subst e2
  exact ⟨A, c, he, hr, ⟨h2, h3⟩, hb⟩
section
set_option maxHeartbeats 3200000
set_option maxRecDepth 100000
theorem rback_walk (x : Rv) (B : Option Addr) (cb : Nat) (xs : Bs) (cut : Int) (w : World) (hT : Tabs w) (hx : RvIn w x) (hbx : Rd w B (xs.map Bv)) (hcb : xs.length ≤ cb) (hcm : cb ≤ maxLen)
    (hc0 : -9223372036854775808 ≤ cut) (hc1 : cut < 9223372036854775808) :
    Calls Tryd.prog 6 #[.agg (rvC x), .slice B xs.length cb, .int .i64 cut] w fun e w' => e = .returned (.bool true) ∧ Below w.heap.size w w' := by
  have hmx : maxLen ≤ 9223372036854775807 := by unfold maxLen; omega
  have HMX := Lib.hid hmx
  have hlive := fun W (hb : Below w.heap.size w W) => liveJ_any W (hT.below hb)
  have hfew := fun W (hb : Below w.heap.size w W) => fewJ_any x W (hx.is.below hb) hx.la.1
  have hft := @fewR_of x.p
  have hput := fun W (hb : Below w.heap.size w W) (hf : Few x.ls) (hl : x.ps.length ≤ 1000000) => put_any x W (hT.below hb) (hx.is.below hb) hf hl hx.ok
  have hchk := fun W (hb : Below w.heap.size w W) (hf : Few x.ls) (hl : x.ps.length ≤ 1000000) => check_any x W (hT.below hb) (hx.is.below hb) hf hl
  have htk := fun W (hb : Below w.heap.size w W) (hl : xs.length ≤ 1000000) => take13_any B cb xs.length xs W (hT.below hb) rfl (hbx.below hb) hcb hl (Nat.le_trans hcm hmx)
  have hxis := hx.is
  have hok := hx.ok
  have hp1 : checkR x.p = 0 → takeR (rowR x.p) = (x.p, 0) := fun h => takeR_put hx.ok h
  have hp2 : checkR x.p = 0 → ∀ z : Bs, 0 < z.length → takeR (rowR x.p ++ z) = (rp0, 8) := fun h z hz => takeR_more hx.ok h hz
  have hp3 : checkR x.p = 0 → ∀ i, i < (rowR x.p).length → takeR ((rowR x.p).take i) = (rp0, 6) := fun h i hi => takeR_cut hx.ok h hi
  have hp4 : checkR x.p = 0 → (rowR x.p).length ≤ 100000 := fun h => rowR_le h hx.ok.1
  have hpr : putR x.p = if checkR x.p ≠ 0 then (checkR x.p, []) else (0, rowR x.p) := rfl
  have hform := @takeR_form xs
  have hb := (RowKit.Below.refl w.heap.size w).alloc (Nat.le_refl _) (.cells (rvC x) 27)
  have hbx0 := heap_alloc_new w (.cells (rvC x) 27)
  generalize fewR x.p = q at hfew hft
  generalize putR x.p = PR at hput hpr
  obtain ⟨pe, prow⟩ := PR
  generalize rowR x.p = row at hp1 hp2 hp3 hp4 hpr
  generalize hck : checkR x.p = ck at hchk hp1 hp2 hp3 hp4 hpr
  obtain ⟨w0, hw0⟩ : ∃ w0, w0 = w.alloc (.cells (rvC x) 27) := ⟨_, rfl⟩
  rw [← hw0] at hb hbx0
  have HT := Lib.hid hT; have HX := Lib.hid hxis; have HBR := Lib.hid hbx; have HL := Lib.hid hlive; have HF := Lib.hid hfew; have HFT := Lib.hid hft; have HPU := Lib.hid hput; have HCH := Lib.hid hchk; have HTK := Lib.hid htk
  have HP1 := Lib.hid hp1; have HP2 := Lib.hid hp2; have HP3 := Lib.hid hp3; have HP4 := Lib.hid hp4; have HPR := Lib.hid hpr; have HFO := Lib.hid hform; have HOK := Lib.hid hok; have HCK := Lib.hid hck
  clear hT hxis hbx hlive hfew hft hput hchk htk hp1 hp2 hp3 hp4 hpr hform hx hok hck hmx
  obtain ⟨px, hpx⟩ : ∃ p, p = x.p := ⟨_, rfl⟩
  have HPX := Lib.hid hpx
  obtain ⟨kd, r, A, ca, ls, Bp, cp, ps⟩ := x
  have hxv : rvC ⟨kd, r, A, ca, ls, Bp, cp, ps⟩ = #[.int .i64 kd, .int .u32 (r : Nat), .slice A ls.length ca, .slice Bp ps.length cp] := rfl
  rw [hxv] at hw0 hbx0 HF HPU HCH ⊢
  clear hxv hpx
  have HW0 := Lib.hid hw0; have HB := Lib.hid hb; have HBX := Lib.hid hbx0
  clear hw0 hb hbx0
  go_enter Tryd.func6, Tryd.ntmps6
  go_wp2_with fail
  rw [← HW0.out]
  refine (HL.out _ HB.out).mono ?_
  rintro e w1 ⟨rfl, hb⟩
  have hbx := (hb.block _ (blk_lt HBX.out)).trans HBX.out
  have b0 := cell_blk hbx 0; have b1 := cell_blk hbx 1; have b2 := cell_blk hbx 2; have b3 := cell_blk hbx 3
  simp only [List.getElem?_toArray, List.getElem?_cons_zero, List.getElem?_cons_succ] at b0 b1 b2 b3
  have HBX := Lib.hid hbx
  have HB := Lib.hid (HB.out.trans (hb.mono HB.out.size))
  clear hbx
  clear hb
  cases q with
  | false =>
    go_wp2_with fail
    refine (HF.out _ HB.out).mono ?_
    rintro e w2 ⟨rfl, hb⟩
    have HB := Lib.hid (HB.out.trans (hb.mono HB.out.size))
    go_wp2_with fail
    refine (HL.out _ HB.out).mono ?_
    rintro e w3 ⟨rfl, hb⟩
    have HB := Lib.hid (HB.out.trans (hb.mono HB.out.size))
    go_wp2
    go_ret
    exact ⟨rfl, HB.out⟩
  | true =>
    obtain ⟨hfw, hls, hps⟩ := HFT.out rfl
    have hls' : ls.length ≤ 40 := hls
    have hps' : ps.length ≤ 400 := hps
    have HFW := Lib.hid hfw
    clear hfw hls hps
    by_cases hx6 : xs.length ≤ 6000
    · have hx6' : ¬ (6000 : Int) < (xs.length : Int) := by omega
      go_wp2_with fail
      refine (HF.out _ HB.out).mono ?_
      rintro e w2 ⟨rfl, hb⟩
      clear b0 b1 b2 b3
      have hbx := (hb.block _ (blk_lt HBX.out)).trans HBX.out
      have b0 := cell_blk hbx 0; have b1 := cell_blk hbx 1; have b2 := cell_blk hbx 2; have b3 := cell_blk hbx 3
      simp only [List.getElem?_toArray, List.getElem?_cons_zero, List.getElem?_cons_succ] at b0 b1 b2 b3
      have HBX := Lib.hid hbx
      have HB := Lib.hid (HB.out.trans (hb.mono HB.out.size))
      clear hbx
      clear hb
      have htk := HTK.out _ HB.out (by omega)
      have hfo := HFO.out
      generalize takeR xs = TR at htk hfo
      obtain ⟨rp, er⟩ := TR
      unfold TakeRes at htk
      simp only at htk hfo
      have HTK2 := Lib.hid htk; have HFO2 := Lib.hid hfo
      clear htk hfo HTK HFO
      go_wp2_with fail
      refine HTK2.out.mono ?_
      rintro e w3 ⟨y, rfl, hyp, hyi, hb⟩
      clear b0 b1 b2 b3
      have hbx := (hb.block _ (blk_lt HBX.out)).trans HBX.out
      have b0 := cell_blk hbx 0; have b1 := cell_blk hbx 1; have b2 := cell_blk hbx 2; have b3 := cell_blk hbx 3
      simp only [List.getElem?_toArray, List.getElem?_cons_zero, List.getElem?_cons_succ] at b0 b1 b2 b3
      have HBX := Lib.hid hbx
      have HB := Lib.hid (HB.out.trans (hb.mono HB.out.size))
      clear hbx
      obtain ⟨kd', r', A', ca', ls', B', cb', ps'⟩ := y
      unfold rvC
      simp only
      have HYI := Lib.hid hyi; have HYP := Lib.hid hyp
      clear hyi hyp hb
      by_cases he0 : er = 0
      · subst he0
        obtain ⟨hf1, hf2⟩ := HFO2.out rfl
        rw [← HYP.out] at hf1 hf2
        have hckx : checkR (Rv.p ⟨kd', r', A', ca', ls', B', cb', ps'⟩) = 0 := by
          unfold putR at hf1
          by_cases hh : checkR (Rv.p ⟨kd', r', A', ca', ls', B', cb', ps'⟩) ≠ 0
          · rw [if_pos hh] at hf1; exact (Prod.mk.inj hf1).1
          · omega
        obtain ⟨hfy, hpy⟩ := check_few hckx
        have hbe := (RowKit.Below.refl w3.heap.size w3).alloc (Nat.le_refl _) (.cells #[.int .i64 kd', .int .u32 (r' : Nat), .slice A' ls'.length ca', .slice B' ps'.length cb'] 27)
        have hpuy := put_any ⟨kd', r', A', ca', ls', B', cb', ps'⟩ (w3.alloc (.cells #[.int .i64 kd', .int .u32 (r' : Nat), .slice A' ls'.length ca', .slice B' ps'.length cb'] 27)) (HT.out.below (HB.out.alloc HB.out.size _)) (HYI.out.below hbe) hfy (by have : ps'.length ≤ 256 := hpy; show ps'.length ≤ _; omega) hf2
        rw [hf1] at hpuy
        unfold rvC at hpuy
        simp only at hpuy
        have HPUY := Lib.hid hpuy
        have hbz := (hbe.block _ (blk_lt HBX.out)).trans HBX.out
        have HBX := Lib.hid hbz
        have HB := Lib.hid (HB.out.alloc HB.out.size (.cells #[.int .i64 kd', .int .u32 (r' : Nat), .slice A' ls'.length ca', .slice B' ps'.length cb'] 27))
        clear hf1 hf2 hckx hfy hpy hbe hpuy hbz b0 b1 b2 b3
        go_wp2_with fail
        refine HPUY.out.mono ?_
        rintro e w4 hpu
        obtain ⟨Aq, cq, rfl, hrq, hcq, hb⟩ := put_rd hpu
        simp only at hrq hcq ⊢
        have heq := equal_any Aq B cq cb xs xs w4 hrq (HBR.out.below (HB.out.trans (hb.mono HB.out.size))) (by omega) (by omega)
        rw [decide_eq_true rfl] at heq
        have HEQ := Lib.hid heq
        have hbx := (hb.block _ (blk_lt HBX.out)).trans HBX.out
        have b0 := cell_blk hbx 0; have b1 := cell_blk hbx 1; have b2 := cell_blk hbx 2; have b3 := cell_blk hbx 3
        simp only [List.getElem?_toArray, List.getElem?_cons_zero, List.getElem?_cons_succ] at b0 b1 b2 b3
        have HBX := Lib.hid hbx
        have HB := Lib.hid (HB.out.trans (hb.mono HB.out.size))
        clear hbx
        clear hpu hrq heq hb
        go_wp2_with fail
        refine HEQ.out.mono ?_
        rintro e w5 ⟨rfl, n5, hw5⟩
        have hb : Below w4.heap.size w4 w5 := by rw [hw5]; exact below_drewN (RowKit.Below.refl _ _) n5
        clear b0 b1 b2 b3
        have hbx := (hb.block _ (blk_lt HBX.out)).trans HBX.out
        have b0 := cell_blk hbx 0; have b1 := cell_blk hbx 1; have b2 := cell_blk hbx 2; have b3 := cell_blk hbx 3
        simp only [List.getElem?_toArray, List.getElem?_cons_zero, List.getElem?_cons_succ] at b0 b1 b2 b3
        have HBX := Lib.hid hbx
        have HB := Lib.hid (HB.out.trans (hb.mono HB.out.size))
        clear hbx
        clear hb hw5
        go_wp2_with fail
        refine (HPU.out _ HB.out HFW.out (by omega)).mono ?_
        rintro e wa hpu
        obtain ⟨Ap, cpp, rfl, hrp, hcp, hb⟩ := put_rd hpu
        simp only at hrp hcp ⊢
        clear b0 b1 b2 b3
        have hbx := (hb.block _ (blk_lt HBX.out)).trans HBX.out
        have b0 := cell_blk hbx 0; have b1 := cell_blk hbx 1; have b2 := cell_blk hbx 2; have b3 := cell_blk hbx 3
        simp only [List.getElem?_toArray, List.getElem?_cons_zero, List.getElem?_cons_succ] at b0 b1 b2 b3
        have HBX := Lib.hid hbx
        have HB := Lib.hid (HB.out.trans (hb.mono HB.out.size))
        clear hbx
        have HRP := Lib.hid hrp
        clear hpu hb hrp
        have hpr := HPR.out
        by_cases hk0 : ck = 0
        · subst hk0
          rw [if_neg (by simp)] at hpr
          simp only [Prod.mk.injEq] at hpr
          obtain ⟨rfl, rfl⟩ := hpr
          have hrl := HP4.out rfl
          have HP1' := Lib.hid (HP1.out rfl); have HP2' := Lib.hid (HP2.out rfl); have HP3' := Lib.hid (HP3.out rfl)
          go_wp2_with fail
          refine (HCH.out _ HB.out HFW.out (by omega)).mono ?_
          rintro e wb ⟨rfl, hb⟩
          clear b0 b1 b2 b3
          have hbx := (hb.block _ (blk_lt HBX.out)).trans HBX.out
          have b0 := cell_blk hbx 0; have b1 := cell_blk hbx 1; have b2 := cell_blk hbx 2; have b3 := cell_blk hbx 3
          simp only [List.getElem?_toArray, List.getElem?_cons_zero, List.getElem?_cons_succ] at b0 b1 b2 b3
          have HBX := Lib.hid hbx
          have HB := Lib.hid (HB.out.trans (hb.mono HB.out.size))
          clear hbx
          have HRP := Lib.hid (HRP.out.below hb)
          have ht2 := take13_any Ap cpp prow.length prow wb (HT.out.below HB.out) rfl HRP.out hcp.1 (by omega) (Nat.le_trans hcp.2 HMX.out)
          rw [HP1'.out] at ht2
          have HT2 := Lib.hid ht2
          clear hb ht2
          go_wp2_with fail
          refine HT2.out.mono ?_
          rintro e wc ⟨y2, rfl, hyp2, hyi2, hb⟩
          clear b0 b1 b2 b3
          have hbx := (hb.block _ (blk_lt HBX.out)).trans HBX.out
          have b0 := cell_blk hbx 0; have b1 := cell_blk hbx 1; have b2 := cell_blk hbx 2; have b3 := cell_blk hbx 3
          simp only [List.getElem?_toArray, List.getElem?_cons_zero, List.getElem?_cons_succ] at b0 b1 b2 b3
          have HBX := Lib.hid hbx
          have HB := Lib.hid (HB.out.trans (hb.mono HB.out.size))
          clear hbx
          have HRP := Lib.hid (HRP.out.below hb)
          have hbe := (RowKit.Below.refl wc.heap.size wc).alloc (Nat.le_refl _) (.cells (rvC y2) 27)
          have hbz := (hbe.block _ (blk_lt HBX.out)).trans HBX.out
          have HBw := Lib.hid (HB.out.trans (hbe.mono HB.out.size))
          have hcl2 := (check_few HCK.out).2
          have hq1 : y2.ls.length = ls.length := by have h := congrArg (fun z : Rp => z.2.2.1.length) hyp2; exact h
          have hq2 : y2.ps.length = ps.length := by have h := congrArg (fun z : Rp => z.2.2.2.length) hyp2; exact h
          have hsm := same13_any ⟨kd, r, A, ca, ls, Bp, cp, ps⟩ y2 (wc.alloc (.cells (rvC y2) 27)) ((HX.out.below HBw.out)) (hyi2.below hbe) (by show ls.length ≤ _; omega) (by show ps.length ≤ _; omega) (by omega) (by omega)
          rw [(same_iff _ _).2 hyp2.symm] at hsm
          have d0 := cell_blk hbz 0; have d1 := cell_blk hbz 1; have d2 := cell_blk hbz 2; have d3 := cell_blk hbz 3
          simp only [List.getElem?_toArray, List.getElem?_cons_zero, List.getElem?_cons_succ] at d0 d1 d2 d3
          obtain ⟨kd2, r2, A2, ca2, ls2, B2, cb2, ps2⟩ := y2
          unfold rvC at hsm hbe hbz HBw d0 d1 d2 d3 ⊢
          simp only at hsm hbe hbz HBw d0 d1 d2 d3 ⊢
          have HSM := Lib.hid hsm; have HBZ := Lib.hid hbz; have HRP := Lib.hid (HRP.out.below hbe)
          clear hb hsm hbe hbz hyp2 hyi2 hq1 hq2
          go_wp2_with fail
          refine HSM.out.mono ?_
          rintro e wd ⟨rfl, hb⟩
          have HB := Lib.hid (HBw.out.trans (hb.mono HBw.out.size))
          have HRP := Lib.hid (HRP.out.below hb)
          clear hb d0 d1 d2 d3 b0 b1 b2 b3
          have HBR2 := Lib.hid (HBR.out.below HB.out)
          by_cases hz : 0 < xs.length
          · have hz' : (0 : Int) < (xs.length : Int) := by omega
            obtain ⟨Y, hY⟩ : ∃ Y, Y = prow ++ xs := ⟨_, rfl⟩
            have hyl : Y.length ≤ 200000 := by rw [hY, List.length_append]; omega
            have hty : takeR Y = (rp0, 8) := by rw [hY]; exact HP2'.out xs hz
            have hj := join_twoO wd Ap B cpp cb prow xs Y HRP.out HBR2.out hY (by omega)
            have HJ := Lib.hid hj; have HTY := Lib.hid hty; have HYL := Lib.hid hyl
            clear hj hty hyl hY
            go_wp2_with fail
            refine HJ.out.mono ?_
            rintro e we ⟨A5, c5, rfl, hr5, hc5, hb⟩
            have HB := Lib.hid (HB.out.trans (hb.mono HB.out.size))
            have HRP := Lib.hid (HRP.out.below hb)
            have ht3 := take13_any A5 c5 Y.length Y we (HT.out.below HB.out) rfl hr5 hc5.1 (by have := HYL.out; omega) (Nat.le_trans hc5.2 HMX.out)
            rw [HTY.out] at ht3
            have HT3 := Lib.hid ht3
            clear hb hr5 ht3
            go_wp2_with fail
            refine HT3.out.mono ?_
            rintro e wf ⟨⟨kd3, r3, A3, ca3, ls3, B3, cb3, ps3⟩, rfl, hyp3, hyi3, hb⟩
            unfold rvC
            simp only
            have hbe := (RowKit.Below.refl wf.heap.size wf).alloc (Nat.le_refl _) (.cells #[.int .i64 kd3, .int .u32 (r3 : Nat), .slice A3 ls3.length ca3, .slice B3 ps3.length cb3] 27)
            have HB := Lib.hid ((HB.out.trans (hb.mono HB.out.size)).trans (hbe.mono (HB.out.trans (hb.mono HB.out.size)).size))
            have HRP := Lib.hid ((HRP.out.below hb).below hbe)
            clear hb hbe hyp3 hyi3
            by_cases hcz : cut < 0
            · have hcz' : cut < 0 := hcz
              go_wp2
              go_ret
              exact ⟨rfl, HB.out⟩
            · by_cases hcl : (prow.length : Int) ≤ cut
              · go_wp2
                go_ret
                exact ⟨rfl, HB.out⟩
              · obtain ⟨j, rfl⟩ := Int.eq_ofNat_of_zero_le (show 0 ≤ cut by omega)
                have hj1 : j < prow.length := by omega
                have hj2 : j ≤ cpp := by omega
                have hcl' : ¬ (prow.length : Int) ≤ (j : Int) := by omega
                have hcz' : ¬ (j : Int) < 0 := by omega
                have hlt : (prow.take j).length = j := by rw [List.length_take]; omega
                have ht4 := fun W (hb : Below w.heap.size w W) hr => take13_any Ap cpp j (prow.take j) W (HT.out.below hb) hlt hr hj2 (by omega) (Nat.le_trans hcp.2 HMX.out)
                rw [HP3'.out j hj1] at ht4
                have HT4 := Lib.hid ht4
                have HRJ := Lib.hid (HRP.out.bytes_take j)
                have hmaxj : (if (0 : Int) < (j : Int) then (j : Int) else 0) = (j : Int) := by split <;> omega
                clear ht4 hcz hcl hlt hc0 hc1
                go_wp2_with fail
                refine (HT4.out _ HB.out HRJ.out).mono ?_
                rintro e wg ⟨⟨kd4, r4, A4, ca4, ls4, B4, cb4, ps4⟩, rfl, hyp4, hyi4, hb⟩
                unfold rvC
                simp only
                have HB := Lib.hid (HB.out.trans (hb.mono HB.out.size))
                clear hb hyp4 hyi4
                go_wp2
                go_ret
                exact ⟨rfl, HB.out.alloc HB.out.size _⟩
          · have hz' : ¬ (0 : Int) < (xs.length : Int) := by omega
            by_cases hcz : cut < 0
            · have hcz' : cut < 0 := hcz
              go_wp2
              go_ret
              exact ⟨rfl, HB.out⟩
            · by_cases hcl : (prow.length : Int) ≤ cut
              · go_wp2
                go_ret
                exact ⟨rfl, HB.out⟩
              · obtain ⟨j, rfl⟩ := Int.eq_ofNat_of_zero_le (show 0 ≤ cut by omega)
                have hj1 : j < prow.length := by omega
                have hj2 : j ≤ cpp := by omega
                have hcl' : ¬ (prow.length : Int) ≤ (j : Int) := by omega
                have hcz' : ¬ (j : Int) < 0 := by omega
                have hlt : (prow.take j).length = j := by rw [List.length_take]; omega
                have ht4 := fun W (hb : Below w.heap.size w W) hr => take13_any Ap cpp j (prow.take j) W (HT.out.below hb) hlt hr hj2 (by omega) (Nat.le_trans hcp.2 HMX.out)
                rw [HP3'.out j hj1] at ht4
                have HT4 := Lib.hid ht4
                have HRJ := Lib.hid (HRP.out.bytes_take j)
                have hmaxj : (if (0 : Int) < (j : Int) then (j : Int) else 0) = (j : Int) := by split <;> omega
                clear ht4 hcz hcl hlt hc0 hc1
                go_wp2_with fail
                refine (HT4.out _ HB.out HRJ.out).mono ?_
                rintro e wg ⟨⟨kd4, r4, A4, ca4, ls4, B4, cb4, ps4⟩, rfl, hyp4, hyi4, hb⟩
                unfold rvC
                simp only
                have HB := Lib.hid (HB.out.trans (hb.mono HB.out.size))
                clear hb hyp4 hyi4
                go_wp2
                go_ret
                exact ⟨rfl, HB.out.alloc HB.out.size _⟩
        · rw [if_pos hk0] at hpr
          simp only [Prod.mk.injEq] at hpr
          obtain ⟨rfl, rfl⟩ := hpr
          have hk1 : ((pe : Int) != 0) = true := by rw [bne_iff_ne]; omega
          go_wp2_with fail
          refine (HCH.out _ HB.out HFW.out (by omega)).mono ?_
          rintro e wb ⟨rfl, hb⟩
          clear b0 b1 b2 b3
          have hbx := (hb.block _ (blk_lt HBX.out)).trans HBX.out
          have b0 := cell_blk hbx 0; have b1 := cell_blk hbx 1; have b2 := cell_blk hbx 2; have b3 := cell_blk hbx 3
          simp only [List.getElem?_toArray, List.getElem?_cons_zero, List.getElem?_cons_succ] at b0 b1 b2 b3
          have HBX := Lib.hid hbx
          have HB := Lib.hid (HB.out.trans (hb.mono HB.out.size))
          clear hbx
          clear hb
          go_wp2_with fail
          refine (HCH.out _ HB.out HFW.out (by omega)).mono ?_
          rintro e wc ⟨rfl, hb⟩
          have HB := Lib.hid (HB.out.trans (hb.mono HB.out.size))
          go_wp2
          go_ret
          exact ⟨by simp, HB.out⟩
      · have g0 : ((er : Int) == 0) = false := by rw [beq_eq_false_iff_ne]; omega
        have hbe := (RowKit.Below.refl w3.heap.size w3).alloc (Nat.le_refl _) (.cells #[.int .i64 kd', .int .u32 (r' : Nat), .slice A' ls'.length ca', .slice B' ps'.length cb'] 27)
        have hb := hbe
        clear b0 b1 b2 b3
        have hbx := (hb.block _ (blk_lt HBX.out)).trans HBX.out
        have b0 := cell_blk hbx 0; have b1 := cell_blk hbx 1; have b2 := cell_blk hbx 2; have b3 := cell_blk hbx 3
        simp only [List.getElem?_toArray, List.getElem?_cons_zero, List.getElem?_cons_succ] at b0 b1 b2 b3
        have HBX := Lib.hid hbx
        have HB := Lib.hid (HB.out.trans (hb.mono HB.out.size))
        clear hbx
        clear hb hbe
        go_wp2_with fail
        refine (HPU.out _ HB.out HFW.out (by omega)).mono ?_
        rintro e wa hpu
        obtain ⟨Ap, cpp, rfl, hrp, hcp, hb⟩ := put_rd hpu
        simp only at hrp hcp ⊢
        clear b0 b1 b2 b3
        have hbx := (hb.block _ (blk_lt HBX.out)).trans HBX.out
        have b0 := cell_blk hbx 0; have b1 := cell_blk hbx 1; have b2 := cell_blk hbx 2; have b3 := cell_blk hbx 3
        simp only [List.getElem?_toArray, List.getElem?_cons_zero, List.getElem?_cons_succ] at b0 b1 b2 b3
        have HBX := Lib.hid hbx
        have HB := Lib.hid (HB.out.trans (hb.mono HB.out.size))
        clear hbx
        have HRP := Lib.hid hrp
        clear hpu hb hrp
        have hpr := HPR.out
        by_cases hk0 : ck = 0
        · subst hk0
          rw [if_neg (by simp)] at hpr
          simp only [Prod.mk.injEq] at hpr
          obtain ⟨rfl, rfl⟩ := hpr
          have hrl := HP4.out rfl
          have HP1' := Lib.hid (HP1.out rfl); have HP2' := Lib.hid (HP2.out rfl); have HP3' := Lib.hid (HP3.out rfl)
          go_wp2_with fail
          refine (HCH.out _ HB.out HFW.out (by omega)).mono ?_
          rintro e wb ⟨rfl, hb⟩
          clear b0 b1 b2 b3
          have hbx := (hb.block _ (blk_lt HBX.out)).trans HBX.out
          have b0 := cell_blk hbx 0; have b1 := cell_blk hbx 1; have b2 := cell_blk hbx 2; have b3 := cell_blk hbx 3
          simp only [List.getElem?_toArray, List.getElem?_cons_zero, List.getElem?_cons_succ] at b0 b1 b2 b3
          have HBX := Lib.hid hbx
          have HB := Lib.hid (HB.out.trans (hb.mono HB.out.size))
          clear hbx
          have HRP := Lib.hid (HRP.out.below hb)
          have ht2 := take13_any Ap cpp prow.length prow wb (HT.out.below HB.out) rfl HRP.out hcp.1 (by omega) (Nat.le_trans hcp.2 HMX.out)
          rw [HP1'.out] at ht2
          have HT2 := Lib.hid ht2
          clear hb ht2
          go_wp2_with fail
          refine HT2.out.mono ?_
          rintro e wc ⟨y2, rfl, hyp2, hyi2, hb⟩
          clear b0 b1 b2 b3
          have hbx := (hb.block _ (blk_lt HBX.out)).trans HBX.out
          have b0 := cell_blk hbx 0; have b1 := cell_blk hbx 1; have b2 := cell_blk hbx 2; have b3 := cell_blk hbx 3
          simp only [List.getElem?_toArray, List.getElem?_cons_zero, List.getElem?_cons_succ] at b0 b1 b2 b3
          have HBX := Lib.hid hbx
          have HB := Lib.hid (HB.out.trans (hb.mono HB.out.size))
          clear hbx
          have HRP := Lib.hid (HRP.out.below hb)
          have hbe := (RowKit.Below.refl wc.heap.size wc).alloc (Nat.le_refl _) (.cells (rvC y2) 27)
          have hbz := (hbe.block _ (blk_lt HBX.out)).trans HBX.out
          have HBw := Lib.hid (HB.out.trans (hbe.mono HB.out.size))
          have hcl2 := (check_few HCK.out).2
          have hq1 : y2.ls.length = ls.length := by have h := congrArg (fun z : Rp => z.2.2.1.length) hyp2; exact h
          have hq2 : y2.ps.length = ps.length := by have h := congrArg (fun z : Rp => z.2.2.2.length) hyp2; exact h
          have hsm := same13_any ⟨kd, r, A, ca, ls, Bp, cp, ps⟩ y2 (wc.alloc (.cells (rvC y2) 27)) ((HX.out.below HBw.out)) (hyi2.below hbe) (by show ls.length ≤ _; omega) (by show ps.length ≤ _; omega) (by omega) (by omega)
          rw [(same_iff _ _).2 hyp2.symm] at hsm
          have d0 := cell_blk hbz 0; have d1 := cell_blk hbz 1; have d2 := cell_blk hbz 2; have d3 := cell_blk hbz 3
          simp only [List.getElem?_toArray, List.getElem?_cons_zero, List.getElem?_cons_succ] at d0 d1 d2 d3
          obtain ⟨kd2, r2, A2, ca2, ls2, B2, cb2, ps2⟩ := y2
          unfold rvC at hsm hbe hbz HBw d0 d1 d2 d3 ⊢
          simp only at hsm hbe hbz HBw d0 d1 d2 d3 ⊢
          have HSM := Lib.hid hsm; have HBZ := Lib.hid hbz; have HRP := Lib.hid (HRP.out.below hbe)
          clear hb hsm hbe hbz hyp2 hyi2 hq1 hq2
          go_wp2_with fail
          refine HSM.out.mono ?_
          rintro e wd ⟨rfl, hb⟩
          have HB := Lib.hid (HBw.out.trans (hb.mono HBw.out.size))
          have HRP := Lib.hid (HRP.out.below hb)
          clear hb d0 d1 d2 d3 b0 b1 b2 b3
          have HBR2 := Lib.hid (HBR.out.below HB.out)
          by_cases hz : 0 < xs.length
          · have hz' : (0 : Int) < (xs.length : Int) := by omega
            obtain ⟨Y, hY⟩ : ∃ Y, Y = prow ++ xs := ⟨_, rfl⟩
            have hyl : Y.length ≤ 200000 := by rw [hY, List.length_append]; omega
            have hty : takeR Y = (rp0, 8) := by rw [hY]; exact HP2'.out xs hz
            have hj := join_twoO wd Ap B cpp cb prow xs Y HRP.out HBR2.out hY (by omega)
            have HJ := Lib.hid hj; have HTY := Lib.hid hty; have HYL := Lib.hid hyl
            clear hj hty hyl hY
            go_wp2_with fail
            refine HJ.out.mono ?_
            rintro e we ⟨A5, c5, rfl, hr5, hc5, hb⟩
            have HB := Lib.hid (HB.out.trans (hb.mono HB.out.size))
            have HRP := Lib.hid (HRP.out.below hb)
            have ht3 := take13_any A5 c5 Y.length Y we (HT.out.below HB.out) rfl hr5 hc5.1 (by have := HYL.out; omega) (Nat.le_trans hc5.2 HMX.out)
            rw [HTY.out] at ht3
            have HT3 := Lib.hid ht3
            clear hb hr5 ht3
            go_wp2_with fail
            refine HT3.out.mono ?_
            rintro e wf ⟨⟨kd3, r3, A3, ca3, ls3, B3, cb3, ps3⟩, rfl, hyp3, hyi3, hb⟩
            unfold rvC
            simp only
            have hbe := (RowKit.Below.refl wf.heap.size wf).alloc (Nat.le_refl _) (.cells #[.int .i64 kd3, .int .u32 (r3 : Nat), .slice A3 ls3.length ca3, .slice B3 ps3.length cb3] 27)
            have HB := Lib.hid ((HB.out.trans (hb.mono HB.out.size)).trans (hbe.mono (HB.out.trans (hb.mono HB.out.size)).size))
            have HRP := Lib.hid ((HRP.out.below hb).below hbe)
            clear hb hbe hyp3 hyi3
            by_cases hcz : cut < 0
            · have hcz' : cut < 0 := hcz
              go_wp2
              go_ret
              exact ⟨rfl, HB.out⟩
            · by_cases hcl : (prow.length : Int) ≤ cut
              · go_wp2
                go_ret
                exact ⟨rfl, HB.out⟩
              · obtain ⟨j, rfl⟩ := Int.eq_ofNat_of_zero_le (show 0 ≤ cut by omega)
                have hj1 : j < prow.length := by omega
                have hj2 : j ≤ cpp := by omega
                have hcl' : ¬ (prow.length : Int) ≤ (j : Int) := by omega
                have hcz' : ¬ (j : Int) < 0 := by omega
                have hlt : (prow.take j).length = j := by rw [List.length_take]; omega
                have ht4 := fun W (hb : Below w.heap.size w W) hr => take13_any Ap cpp j (prow.take j) W (HT.out.below hb) hlt hr hj2 (by omega) (Nat.le_trans hcp.2 HMX.out)
                rw [HP3'.out j hj1] at ht4
                have HT4 := Lib.hid ht4
                have HRJ := Lib.hid (HRP.out.bytes_take j)
                have hmaxj : (if (0 : Int) < (j : Int) then (j : Int) else 0) = (j : Int) := by split <;> omega
                clear ht4 hcz hcl hlt hc0 hc1
                go_wp2_with fail
                refine (HT4.out _ HB.out HRJ.out).mono ?_
                rintro e wg ⟨⟨kd4, r4, A4, ca4, ls4, B4, cb4, ps4⟩, rfl, hyp4, hyi4, hb⟩
                unfold rvC
                simp only
                have HB := Lib.hid (HB.out.trans (hb.mono HB.out.size))
                clear hb hyp4 hyi4
                go_wp2
                go_ret
                exact ⟨rfl, HB.out.alloc HB.out.size _⟩
          · have hz' : ¬ (0 : Int) < (xs.length : Int) := by omega
            by_cases hcz : cut < 0
            · have hcz' : cut < 0 := hcz
              go_wp2
              go_ret
              exact ⟨rfl, HB.out⟩
            · by_cases hcl : (prow.length : Int) ≤ cut
              · go_wp2
                go_ret
                exact ⟨rfl, HB.out⟩
              · obtain ⟨j, rfl⟩ := Int.eq_ofNat_of_zero_le (show 0 ≤ cut by omega)
                have hj1 : j < prow.length := by omega
                have hj2 : j ≤ cpp := by omega
                have hcl' : ¬ (prow.length : Int) ≤ (j : Int) := by omega
                have hcz' : ¬ (j : Int) < 0 := by omega
                have hlt : (prow.take j).length = j := by rw [List.length_take]; omega
                have ht4 := fun W (hb : Below w.heap.size w W) hr => take13_any Ap cpp j (prow.take j) W (HT.out.below hb) hlt hr hj2 (by omega) (Nat.le_trans hcp.2 HMX.out)
                rw [HP3'.out j hj1] at ht4
                have HT4 := Lib.hid ht4
                have HRJ := Lib.hid (HRP.out.bytes_take j)
                have hmaxj : (if (0 : Int) < (j : Int) then (j : Int) else 0) = (j : Int) := by split <;> omega
                clear ht4 hcz hcl hlt hc0 hc1
                go_wp2_with fail
                refine (HT4.out _ HB.out HRJ.out).mono ?_
                rintro e wg ⟨⟨kd4, r4, A4, ca4, ls4, B4, cb4, ps4⟩, rfl, hyp4, hyi4, hb⟩
                unfold rvC
                simp only
                have HB := Lib.hid (HB.out.trans (hb.mono HB.out.size))
                clear hb hyp4 hyi4
                go_wp2
                go_ret
                exact ⟨rfl, HB.out.alloc HB.out.size _⟩
        · rw [if_pos hk0] at hpr
          simp only [Prod.mk.injEq] at hpr
          obtain ⟨rfl, rfl⟩ := hpr
          have hk1 : ((pe : Int) != 0) = true := by rw [bne_iff_ne]; omega
          go_wp2_with fail
          refine (HCH.out _ HB.out HFW.out (by omega)).mono ?_
          rintro e wb ⟨rfl, hb⟩
          clear b0 b1 b2 b3
          have hbx := (hb.block _ (blk_lt HBX.out)).trans HBX.out
          have b0 := cell_blk hbx 0; have b1 := cell_blk hbx 1; have b2 := cell_blk hbx 2; have b3 := cell_blk hbx 3
          simp only [List.getElem?_toArray, List.getElem?_cons_zero, List.getElem?_cons_succ] at b0 b1 b2 b3
          have HBX := Lib.hid hbx
          have HB := Lib.hid (HB.out.trans (hb.mono HB.out.size))
          clear hbx
          clear hb
          go_wp2_with fail
          refine (HCH.out _ HB.out HFW.out (by omega)).mono ?_
          rintro e wc ⟨rfl, hb⟩
          have HB := Lib.hid (HB.out.trans (hb.mono HB.out.size))
          go_wp2
          go_ret
          exact ⟨by simp, HB.out⟩
    · have hx6' : (6000 : Int) < (xs.length : Int) := by omega
      go_wp2_with fail
      refine (HF.out _ HB.out).mono ?_
      rintro e w2 ⟨rfl, hb⟩
      have HB := Lib.hid (HB.out.trans (hb.mono HB.out.size))
      go_wp2_with fail
      refine (HL.out _ HB.out).mono ?_
      rintro e w3 ⟨rfl, hb⟩
      have HB := Lib.hid (HB.out.trans (hb.mono HB.out.size))
      go_wp2
      go_ret
      exact ⟨rfl, HB.out⟩
end

set_option maxRecDepth 100000 in
theorem recordBack_contract (H : Type) (enc : TypeId × Value → H) (W : World) (base : Nat) (args : Array Value) (ds gs : List (DataW H)) (before : List MemPlace)
    (hval : ∀ (j : Nat) t v, Tryd.f6.params[j]? = some t → args[j]? = some v → Value.okWide Tryd.prog W .any base t v)
    (hW : DataW.Whole enc Tryd.prog Tryd.f6.params.toList Rows.recordBackSpec.vars false W args.toList ds gs before) (hL : laidMetH Tryd.prog Rows.recordBackRow.laid W) :
    Calls Tryd.prog 6 args W fun e W' => ∃ v, e = .returned v ∧ Rows.recordBackSpec.post enc Tryd.prog Tryd.f6 false true false false W args v W' := by
  have hW' := hW
  obtain ⟨p, q, hA0, hV, rfl, hfz, hnd⟩ := hW
  have hA : DataW.TrodAll enc Tryd.prog W 0 (fun _ => true) true Tryd.f6.params.toList args.toList ds p := hA0
  rw [Tryd.params6] at hA hval
  obtain ⟨v0, vs0, d0, ds0, p0, q0, hargs, rfl, rfl, h0, r0⟩ := trodAll_cons hA
  obtain ⟨v1, vs1, d1, ds1, p1, q1, rfl, rfl, rfl, h1, r1⟩ := trodAll_cons r0
  obtain ⟨v2, vs2, d2, ds2, p2, q2, rfl, rfl, rfl, h2, r2⟩ := trodAll_cons r1
  obtain ⟨rfl, rfl, rfl⟩ := trodAll_nil r2
  obtain rfl : args = #[v0, v1, v2] := by cases args; simp_all
  obtain ⟨rfl, rfl⟩ := trodVars_none hV
  obtain ⟨x0, rfl, hx0⟩ := open_record (hval 0 27 v0 rfl rfl) h0
  obtain ⟨A1, c1, xs1, rfl, hm1, hx1⟩ := open_bytes Tryd.underlying30 Tryd.underlying5 (by kernel_rfl) (hval 1 30 v1 rfl rfl) h1
  obtain ⟨a2, rfl, rfl, rfl, w2⟩ := open_int Tryd.underlying3 (hval 2 3 v2 rfl rfl) h2
  clear hA0 hA
  unfold maxLen at hm1
  have b2 := bounds_i64 w2
  refine (rback_walk x0 A1 c1 xs1 a2 W (tabs hL) hx0 hx1 hm1.1 (by unfold maxLen; omega) (by omega) (by omega)).mono fun e W' ⟨he, hg⟩ => ?_
  subst he
  exact ⟨_, rfl, law_end laidOut (by kernel_rfl) (by kernel_rfl) Tryd.underlying4 rfl hW' ⟨rfl, rfl, rfl⟩ hg⟩

theorem recordBack_met (os : Os) : laidMet Tryd.prog Rows.recordBackRow.laid ((laidWorld os).forCall (fun _ _ => 0) ⟨#[], #[.agg #[.int .i64 0, .int .u32 0, .slice none 0 0, .slice none 0 0], .slice none 0 0, .int .i64 0], []⟩).memory :=
  laid_met os _
theorem recordBack_reads (os : Os) {H : Type} (enc : TypeId × Value → H) : ∃ places, DataW.whole enc Tryd.prog ((laidWorld os).forCall (fun _ _ => 0) ⟨#[], #[.agg #[.int .i64 0, .int .u32 0, .slice none 0 0, .slice none 0 0], .slice none 0 0, .int .i64 0], []⟩).memory Tryd.f6.params.toList Rows.recordBackSpec.vars false (#[.agg #[.int .i64 0, .int .u32 0, .slice none 0 0, .slice none 0 0], .slice none 0 0, .int .i64 0] : Array Value).toList 8 = some ([.agg [.lit (.int .i64 0), .lit (.int .u32 0), .nil, .nil], .nil, .lit (.int .i64 0)], [], places) :=
  ⟨[], by kernel_rfl⟩

set_option maxRecDepth 100000 in
theorem recordBack_lifted (os : Os) (started : os.Started) (H : Type) (enc : TypeId × Value → H) (F : Stop.Interp) :
    ReturnsInHanded {} Tryd.checked os 6 .any ((OpenSpec.ofChange Rows.recordBackSpec).preRow enc Tryd.prog Tryd.f6 Rows.recordBackRow.domain false Rows.recordBackRow.laid) (((OpenSpec.ofChange Rows.recordBackSpec).at F).post enc Tryd.prog Tryd.f6 false true false false) := by
  obtain ⟨places, hx⟩ := recordBack_reads os enc
  refine returnsInHanded_of_row (C := Tryd.checked) (s := OpenSpec.ofChange Rows.recordBackSpec) ownKn started (by kernel_rfl) Tryd.func6
    (witness_row_at (enc := enc) (C := Tryd.checked) false (laidWorld os) #[.agg #[.int .i64 0, .int .u32 0, .slice none 0 0, .slice none 0 0], .slice none 0 0, .int .i64 0] rfl (by kernel_rfl) (by kernel_rfl) (by kernel_rfl)
      (OpenSpec.preRow_of_cond 8 hx (by kernel_rfl) (fun k hk => by cases hk) (by kernel_rfl) (recordBack_met os))) ?_
  intro W base args ds gs before hval hW _ _ _ hL _ _
  exact recordBack_contract H enc W base args ds gs before hval hW hL

theorem recordBack_said : Rows.RecordBackSaid :=
  OpenClaim.holds_of_cond 6 Tryd.f6 rfl rfl rfl rfl rfl rfl rfl ⟨rfl, rfl, rfl, rfl, rfl⟩ rfl rfl rfl rfl rfl (by kernel_rfl) Tryd.func6 (by kernel_rfl)
    (of_decide_eq_true (by kernel_rfl)) (by unfold Func.isWrapper; first | (rw [if_pos (by decide +kernel)]; kernel_rfl) | (rw [if_neg (by decide +kernel)]; exact ⟨rfl, rfl⟩))
    (fun os started H enc _ F => by rw [OpenClaim.pre_eq_preRow]; exact recordBack_lifted os started H enc F)

theorem recordBack_plain (f : FuncId) (fn : Func) (hf : Tryd.pinned.checked.prog.funcNamed "manometer/manometerlaw13.RecordBack" = some f) (hfn : Tryd.pinned.checked.prog.funcs[f]? = some fn) :
    false = Tryd.pinned.checked.prog.looks [] ∧ ∀ (j : Nat) t, fn.params[j]? = some t → Tryd.pinned.checked.prog.wantsStandIn t = false := by
  obtain rfl : f = 6 := Option.some.inj ((show Tryd.prog.funcNamed "manometer/manometerlaw13.RecordBack" = some 6 by kernel_rfl).symm.trans hf) |>.symm
  obtain rfl : fn = Tryd.f6 := (Option.some.inj (Tryd.func6.symm.trans hfn)).symm
  refine ⟨by kernel_rfl, fun j t ht => ?_⟩
  rw [Tryd.params6] at ht
  have hm : t = 27 ∨ t = 30 ∨ t = 3 := by simpa using Array.mem_of_getElem? ht
  rcases hm with rfl | rfl | rfl
  · exact (show Tryd.prog.wantsStandIn 27 = false by kernel_rfl)
  · exact (show Tryd.prog.wantsStandIn 30 = false by kernel_rfl)
  · exact (show Tryd.prog.wantsStandIn 3 = false by kernel_rfl)

theorem recordBack_card : Rows.RecordBackCardSaid :=
  Claim7.holds_tied_plain_at .later [] _ _ _ _ recordBack_said (fun _ h => by cases h) (by kernel_rfl) (fun _ h => by cases h) recordBack_row_tie rfl ⟨rfl, rfl⟩ (by kernel_rfl) rfl recordBack_plain (by kernel_rfl)
#print axioms recordBack_card
end Go.Proofs.YtgogpngobdafaaaDoor
