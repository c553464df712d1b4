/-
  A record's bytes: the plain answers' own.
-/
import Derived.Deep.RegionHeld3
import Derived.Test.YtgogpngobdafaaaDoorJh
import Derived.Test.YtgogpngobdafaaaDoorJf
import Derived.Test.YtgogpngobdafaaaDoorBg
import Derived.Test.YtgogpngobdafaaaDoorRsz
namespace Go.Proofs.YtgogpngobdafaaaDoor
set_option linter.unusedVariables false
set_option linter.unusedSimpArgs false
open Go.RowKit
theorem own_rd8 {w : World} {B n : Nat} {v : Value} {xs : Bs} (h : w.ownsRow B 5 1 v n (xs.map Bv)) (hn : xs.length = n) : ∃ A c, v = .slice A n c ∧ Rd w A (xs.map Bv) := by
  subst hn
  obtain ⟨A, c, e, hr, -⟩ := own_rd h
  exact ⟨A, c, e, hr⟩
theorem undrewJ {w w' : World} (h : RowKit.Below w.drew.heap.size w.drew w') : RowKit.Below w.heap.size w w' := ⟨h.os, h.tape, h.output, h.size, h.block⟩
section
set_option maxHeartbeats 3200000
set_option maxRecDepth 100000
theorem join_five (w : World) (A0 A1 A2 A3 A4 : Option Addr) (c0 c1 c2 c3 c4 n4 : Nat) (x0 x1 x2 x3 x4 Y : Bs) (h0 : Rd w A0 (x0.map Bv)) (h1 : Rd w A1 (x1.map Bv)) (h2 : Rd w A2 (x2.map Bv)) (h3 : Rd w A3 (x3.map Bv)) (h4 : Rd w A4 (x4.map Bv)) (hn4 : x4.length = n4)
    (hY : Y = x0 ++ (x1 ++ (x2 ++ (x3 ++ x4)))) (hl : Y.length ≤ 140737488351232) :
    Calls Tryd.prog 25 #[.slice (some ⟨w.heap.size, 0, none⟩) 5 5] (w.alloc (.cells #[.slice A0 x0.length c0, .slice A1 x1.length c1, .slice A2 x2.length c2, .slice A3 x3.length c3, .slice A4 n4 c4] 30)) fun e w' =>
      ∃ A c, e = .returned (.slice A Y.length c) ∧ w'.ownsRow (w.heap.size + 1) 5 1 (.slice A Y.length c) Y.length (Y.map Bv) ∧ Below w.heap.size w w' := by
  subst hn4
  refine (join_here w [(A0, c0, x0), (A1, c1, x1), (A2, c2, x2), (A3, c3, x3), (A4, c4, x4)] 5 rfl (by
    intro q hq
    simp only [List.mem_cons, List.not_mem_nil, or_false] at hq
    rcases hq with rfl | rfl | rfl | rfl | rfl
    · exact h0
    · exact h1
    · exact h2
    · exact h3
    · exact h4) Y (by rw [hY]; simp [joined]) hl (by decide)).mono ?_
  rintro e w' ⟨A, c, rfl, ho, hb⟩
  exact ⟨A, c, rfl, ho, hb⟩
theorem join_twoJ (w : World) (A0 A1 : Option Addr) (c0 c1 n0 : Nat) (x0 x1 Y : Bs) (h0 : Rd w A0 (x0.map Bv)) (h1 : Rd w A1 (x1.map Bv)) (hn0 : x0.length = n0) (hY : Y = x0 ++ x1) (hl : Y.length ≤ 140737488351232) :
    Calls Tryd.prog 25 #[.slice (some ⟨w.heap.size, 0, none⟩) 2 2] (w.alloc (.cells #[.slice A0 n0 c0, .slice A1 x1.length c1] 30)) fun e w' =>
      ∃ A c, e = .returned (.slice A Y.length c) ∧ Rd w' A (Y.map Bv) ∧ Below w.heap.size w w' := by
  subst hn0
  refine (join_here w [(A0, c0, x0), (A1, c1, x1)] 2 rfl (by
    intro q hq
    simp only [List.mem_cons, List.not_mem_nil, or_false] at hq
    rcases hq with rfl | rfl
    · exact h0
    · exact h1) Y (by rw [hY]; simp [joined]) hl (by decide)).mono ?_
  rintro e w' ⟨A, c, rfl, ho, hb⟩
  exact ⟨A, c, rfl, own_rdA ho, hb⟩
theorem join_threeJ (w : World) (A0 A1 A2 : Option Addr) (c0 c1 c2 n0 : Nat) (x0 x1 x2 Y : Bs) (h0 : Rd w A0 (x0.map Bv)) (h1 : Rd w A1 (x1.map Bv)) (h2 : Rd w A2 (x2.map Bv)) (hn0 : x0.length = n0) (hY : Y = x0 ++ (x1 ++ x2)) (hl : Y.length ≤ 140737488351232) :
    Calls Tryd.prog 25 #[.slice (some ⟨w.heap.size, 0, none⟩) 3 3] (w.alloc (.cells #[.slice A0 n0 c0, .slice A1 x1.length c1, .slice A2 x2.length c2] 30)) fun e w' =>
      ∃ A c, e = .returned (.slice A Y.length c) ∧ Rd w' A (Y.map Bv) ∧ Below w.heap.size w w' := by
  subst hn0
  refine (join_here w [(A0, c0, x0), (A1, c1, x1), (A2, c2, x2)] 3 rfl (by
    intro q hq
    simp only [List.mem_cons, List.not_mem_nil, or_false] at hq
    rcases hq with rfl | rfl | rfl
    · exact h0
    · exact h1
    · exact h2) Y (by rw [hY]; simp [joined]) hl (by decide)).mono ?_
  rintro e w' ⟨A, c, rfl, ho, hb⟩
  exact ⟨A, c, rfl, own_rdA ho, hb⟩
theorem rput13_any (x : Rv) (w : World) (hx : RvIs w x) (hf : Few x.ls) (hl : x.ps.length ≤ 1000000) (ho : RpOk x.p) :
    Calls Tryd.prog 16 #[.agg (rvC x)] w (BytesRes w (putR x.p)) := by
  have hch := fun W (hb : Below w.heap.size w W) => rcheck_any x W (hx.below hb) hf hl
  have hb := (RowKit.Below.refl w.heap.size w).alloc (Nat.le_refl _) (.cells (rvC x) 27)
  have HB := Lib.hid hb; clear hb
  obtain ⟨R, hR⟩ : ∃ R, R = putR x.p := ⟨_, rfl⟩
  rw [← hR]
  unfold putR at hR
  have hsm := @check_small x.p
  have h1 := @check_one x.p
  have h2 := @check_two x.p
  obtain ⟨q, hq⟩ : ∃ q, q = checkR x.p := ⟨_, rfl⟩
  rw [← hq] at hch hR hsm h1 h2
  have HQ := Lib.hid hq; clear hq
  by_cases hq0 : q = 0
  · subst hq0
    rw [if_neg (by simp)] at hR
    obtain ⟨hs1, hs2⟩ := hsm rfl
    have hlp := fun W (hb : Below w.heap.size w W) => rput_bytes_any x.A x.ca x.ls W (hx.la.below hb) hf
    have hxb := hx.lb
    have hoe := ho.2
    have hpu := fun W => rpu_any x.r W (by have := ho.1; have : x.p.2.1 = x.r := rfl; omega)
    have hpl := fun W => rpu_any x.ps.length W (by omega)
    have hc1 := fun h => h1 h rfl
    have hc2 := fun h => h2 h rfl
    clear hsm h1 h2
    obtain ⟨kd, r, A, ca, ls, B, cb, ps⟩ := x
    unfold rvC Rv.p at *
    simp only at *
    have hr32 := ho.1
    simp only at hr32
    by_cases hk : kd = 1
    · subst hk
      obtain ⟨hc3, hc4, hc5⟩ := hc1 rfl
      have hbp : bytesP ls = (0, pu ls.length ++ labBytes ls) := by unfold bytesP; rw [if_neg (by omega)]
      rw [hbp] at hlp
      unfold BytesRes at hlp
      simp only at hlp
      unfold rowR at hR
      rw [if_pos rfl] at hR
      simp only at hR
      have hl1 : (pu r).length ≤ 10 := by have := pu_len 10 r (by omega); omega
      have hl2 : (pu ls.length ++ labBytes ls).length ≤ 100000 := by
        have := pu_len 10 ls.length (by omega)
        have := labBytesJ_le (right_small hc5).1
        rw [List.length_append]; omega
      obtain ⟨Z, hZ⟩ : ∃ Z, Z = [1] ++ (pu r ++ (pu ls.length ++ labBytes ls)) := ⟨_, rfl⟩
      have hR2 : R = (0, Z) := by rw [hR, hZ]; rfl
      generalize pu ls.length ++ labBytes ls = Y at hlp hZ hl2
      generalize pu r = X at hpu hZ hl1
      have hzl : Z.length ≤ 1000000 := by rw [hZ]; simp only [List.length_append, List.length_singleton]; omega
      have HC := Lib.hid hch; have HLP := Lib.hid hlp; have HPU := Lib.hid hpu; have HR2 := Lib.hid hR2; have HZ := Lib.hid hZ; have HZL := Lib.hid hzl
      clear hch hlp hpu hpl hR hR2 hbp hc1 hc2 hc5 ho hx hf hxb hoe hZ hzl hc3 hc4
      go_enter Tryd.func16, Tryd.ntmps16
      go_wp2_with fail
      refine (HC.out _ HB.out).mono ?_
      rintro e w1 ⟨rfl, hb1⟩
      have hbx := (hb1.block w.heap.size (by simp)).trans (heap_alloc_new w _)
      have b0 := cell_blk hbx 0
      simp only [List.getElem?_toArray, List.getElem?_cons_zero, List.getElem?_cons_succ] at b0
      have HB1 := Lib.hid (HB.out.trans (hb1.mono HB.out.size)); clear hb1
      have HO1 := Lib.hid (own_rdA (own_byte w1 1 (.int .u8 1) rfl))
      have HB2 := Lib.hid (HB1.out.alloc HB1.out.size (.cells #[.int .u8 1] 5))
      have hbx2 := (Below.heap_alloc w1 (.cells #[.int .u8 1] 5) _ (blk_lt hbx)).trans hbx
      have e0 := cell_blk hbx2 0; have e2 := cell_blk hbx2 2
      simp only [List.getElem?_toArray, List.getElem?_cons_zero, List.getElem?_cons_succ] at e0 e2
      have HBX2 := Lib.hid hbx2
      clear hbx hbx2
      go_wp2_with fail
      refine (HLP.out _ HB2.out).mono ?_
      rintro e w3 ⟨A3, c3, rfl, hr3, hb3⟩
      have hbx := (hb3.block w.heap.size (blk_lt HBX2.out)).trans HBX2.out
      have d1 := cell_blk hbx 1
      simp only [List.getElem?_toArray, List.getElem?_cons_zero, List.getElem?_cons_succ] at d1
      have hs3 := HB2.out.size
      have HO3 := Lib.hid (HO1.out.below hb3)
      have HY3 := Lib.hid hr3
      have HB3 := Lib.hid (HB2.out.trans (hb3.mono hs3))
      clear hb3 hr3 b0 e0 e2 hbx HO1 HBX2
      go_wp2_with fail
      refine (HPU.out _).mono ?_
      rintro e w4 ⟨v4, rfl, own4, hb4⟩
      obtain ⟨A4, c4, rfl, hr4, -⟩ := own_rd own4
      have hs3' := HB3.out.size
      have HO4 := Lib.hid (HO3.out.below hb4)
      have HY4 := Lib.hid (HY3.out.below hb4)
      have HB4 := Lib.hid (HB3.out.trans (hb4.mono hs3'))
      have HR4 := Lib.hid hr4
      clear hb4 own4 hr4 d1 HO3 HY3
      have hj := join_threeJ w4 (some ⟨w1.heap.size, 0, none⟩) A4 A3 1 c4 c3 1 [1] X Y Z HO4.out HR4.out HY4.out rfl HZ.out (by have := HZL.out; omega)
      have HJ := Lib.hid hj; clear hj
      go_wp2_with fail
      refine HJ.out.mono ?_
      rintro e w5 ⟨A5, c5, rfl, hr5, hb5⟩
      have HR5 := Lib.hid hr5; have HB5 := Lib.hid (HB4.out.trans (hb5.mono HB4.out.size))
      clear hr5 hb5
      go_wp2
      go_ret2
      rw [HR2.out]
      exact ⟨A5, c5, rfl, HR5.out, HB5.out⟩
    · obtain ⟨hk2, hc2a, hc2b, hc2c, hc2d, hc2e⟩ := hc2 hk
      subst hk2
      unfold rowR at hR
      rw [if_neg (show ¬ (2 : Int) = 1 by decide)] at hR
      simp only at hR
      have hpl10 := pu_len 10 ps.length (by omega)
      obtain ⟨Z, hZ⟩ : ∃ Z, Z = [2] ++ pu ps.length := ⟨_, rfl⟩
      have hR2 : R = (0, Z ++ entsB en0 ps) := by rw [hR, hZ]; simp
      generalize pu ps.length = X at hpl hZ hpl10
      have hzl : Z.length ≤ 11 := by rw [hZ]; simp only [List.length_append, List.length_singleton]; omega
      have HC := Lib.hid hch; have HPL := Lib.hid hpl; have HR2 := Lib.hid hR2; have HZ := Lib.hid hZ; have HZL := Lib.hid hzl; have HXB := Lib.hid hxb; have HOE := Lib.hid hoe
      clear hch hlp hpu hpl hR hR2 hc1 hc2 ho hx hf hk hc2a hc2b hc2c hc2d hc2e hxb hoe hZ hzl hpl10
      go_enter Tryd.func16, Tryd.ntmps16
      go_wp2_with fail
      refine (HC.out _ HB.out).mono ?_
      rintro e w1 ⟨rfl, hb1⟩
      have hbx := (hb1.block w.heap.size (by simp)).trans (heap_alloc_new w _)
      have b0 := cell_blk hbx 0
      simp only [List.getElem?_toArray, List.getElem?_cons_zero, List.getElem?_cons_succ] at b0
      have HB1 := Lib.hid (HB.out.trans (hb1.mono HB.out.size)); clear hb1
      have HO1 := Lib.hid (own_rdA (own_byte w1 2 (.int .u8 2) rfl))
      have HB2 := Lib.hid (HB1.out.alloc HB1.out.size (.cells #[.int .u8 2] 5))
      have hbx2 := (Below.heap_alloc w1 (.cells #[.int .u8 2] 5) _ (blk_lt hbx)).trans hbx
      have e0 := cell_blk hbx2 0; have e3 := cell_blk hbx2 3
      simp only [List.getElem?_toArray, List.getElem?_cons_zero, List.getElem?_cons_succ] at e0 e3
      have HBX2 := Lib.hid hbx2
      clear hbx hbx2
      go_wp2_with fail
      refine (HPL.out _).mono ?_
      rintro e w3 ⟨v3, rfl, own3, hb3⟩
      obtain ⟨A4, c4, rfl, hr4, -⟩ := own_rd own3
      have hs3 := HB2.out.size
      have HO4 := Lib.hid (HO1.out.below hb3)
      have HB4 := Lib.hid (HB2.out.trans (hb3.mono hs3))
      have HBX4 := Lib.hid ((hb3.block w.heap.size (blk_lt HBX2.out)).trans HBX2.out)
      have HR4 := Lib.hid hr4
      clear hb3 own3 hr4 b0 e0 e3 HO1 HBX2
      have hj := join_twoJ w3 (some ⟨w1.heap.size, 0, none⟩) A4 1 c4 1 [2] X Z HO4.out HR4.out rfl HZ.out (by have := HZL.out; omega)
      have HJ := Lib.hid hj; clear hj
      go_wp2_with fail
      refine HJ.out.mono ?_
      rintro e w5 ⟨A5, c5, rfl, hr5, hb5⟩
      have hB5 := HB4.out.trans (hb5.mono HB4.out.size)
      have hbx := (hb5.block w.heap.size (blk_lt HBX4.out)).trans HBX4.out
      have hbx2 := (Below.heap_alloc w5 (.cells #[.int .u32 0, .int .i64 0, .int .u64 0, .int .u64 0] 47) _ (blk_lt hbx)).trans hbx
      have d3 := cell_blk hbx2 3
      simp only [List.getElem?_toArray, List.getElem?_cons_zero, List.getElem?_cons_succ] at d3
      have HQ0 := Lib.hid (show EBox (w5.alloc (.cells #[.int .u32 0, .int .i64 0, .int .u64 0, .int .u64 0] 47)) w5.heap.size en0 from heap_alloc_new w5 _)
      have HR5 := Lib.hid (hr5.alloc (.cells #[.int .u32 0, .int .i64 0, .int .u64 0, .int .u64 0] 47))
      have HB5 := Lib.hid (hB5.alloc hB5.size (.cells #[.int .u32 0, .int .i64 0, .int .u64 0, .int .u64 0] 47))
      have hs5 := hB5.size
      clear hr5 hb5 hB5 hbx hbx2
      go_wp2
      clear d3
      obtain ⟨q, hqq⟩ : ∃ q, q = w5.heap.size := ⟨_, rfl⟩
      rw [← hqq] at HQ0 ⊢
      have hqw : w.heap.size ≤ q := by omega
      clear hqq hs5
      go_loopw [5, 51] (fun s5 s51 wr => ∃ (k : Nat) (p : En) (acc : Bs) (A5 : Option Addr) (c5 : Nat), s51 = .int .i64 k ∧ s5 = .slice A5 acc.length c5 ∧ k ≤ ps.length ∧ acc.length ≤ 11 + k * 38 ∧ Aside (EnOk p) ∧ Aside (EBox wr q p) ∧ Aside (Rd wr A5 (acc.map Bv)) ∧ Aside (RowKit.Below w.heap.size w wr) ∧ Aside (R = (0, acc ++ entsB p (ps.drop k)))) (fun _ s51 _ => ps.length - (intOf s51).toNat)
      case atStart => exact ⟨0, en0, Z, A5, c5, rfl, rfl, by omega, (by have := HZL.out; omega), en0_ok, HQ0.out, HR5.out, HB5.out, HR2.out⟩
      case round =>
        obtain ⟨k, p, acc, A5, c5, rfl, rfl, hk, hacc, PO, PB, RW, BW, E⟩ := hrel
        by_cases hlt : k < ps.length
        · have k0 : (0 : Int) ≤ (k : Int) := by omega
          have k1 : (k : Int) < (ps.length : Int) := by omega
          have hE := E.out
          rw [List.drop_eq_getElem_cons hlt] at hE
          obtain ⟨b, off, rfl, c0, c1, c2, c3⟩ := en_at (HXB.out.below BW.out) (List.getElem?_eq_getElem hlt)
          have hxo := HOE.out ps[k] (List.getElem_mem hlt)
          generalize ps[k] = x at c0 c1 c2 c3 hE hxo
          have hel := entB_len p x
          have hpo := PO.out
          have HXO := Lib.hid hxo
          obtain ⟨x1, x2, x3, x4⟩ := x
          obtain ⟨p1, p2, p3, p4⟩ := p
          have hent : entB (p1, p2, p3, p4) (x1, x2, x3, x4) = pu (zigN (sd x1 p1)) ++ (pu (zigN (sd x2 p2)) ++ (pu (zigN (sd x4 p4)) ++ bigN 8 x3)) := rfl
          have hE2 : R = (0, (acc ++ entB (p1, p2, p3, p4) (x1, x2, x3, x4)) ++ entsB (x1, x2, x3, x4) (ps.drop (k + 1))) := by rw [hE, entsB, List.append_assoc]
          obtain ⟨o1, o2, o3, o4, o5⟩ := hxo
          obtain ⟨q1, q2, q3, q4, q5⟩ := hpo
          simp only at c0 c1 c2 c3 o1 o2 o3 o4 o5 q1 q2 q3 q4 q5
          obtain ⟨Q0, Q1, Q2, Q3⟩ := (PB.out.alloc (.cells #[.int .u32 (x1 : Nat), .int .i64 x2, .int .u64 (x3 : Nat), .int .u64 (x4 : Nat)] 47)).cells
          simp only at Q0 Q1 Q2 Q3
          rw [hent] at hE2 hel
          have R1 := sd_range (x1 : Int) (p1 : Int)
          have R2 := sd_range x2 p2
          have R3 := sd_range (x4 : Int) (p4 : Int)
          have e1 : (x1 : Int) - (p1 : Int) = sd (x1 : Int) (p1 : Int) := by unfold sd; omega
          have e2 := wrap_sd2 x2 p2
          have e3 := wrap_sd (x4 : Int) (p4 : Int)
          generalize sd (x1 : Int) (p1 : Int) = S1 at *
          generalize sd x2 p2 = S2 at *
          generalize sd (x4 : Int) (p4 : Int) = S3 at *
          generalize hT1 : IntKind.u64.wrap x2 = T1 at e2
          generalize hT2 : IntKind.u64.wrap p2 = T2 at e2
          generalize hD2 : IntKind.u64.wrap (T1 - T2) = D2 at e2
          generalize hD3 : IntKind.u64.wrap ((x4 : Int) - (p4 : Int)) = D3 at e3
          have V1 := fun W => rpv_any S1 W R1.1 R1.2
          have V2 := fun W => rpv_any S2 W R2.1 R2.2
          have V3 := fun W => rpv_any S3 W R3.1 R3.2
          have VB := fun W => rbig_any W x3 o4
          have hb8 : (bigN 8 x3).length = 8 := bigN_len 8 x3
          obtain ⟨Y, hY⟩ : ∃ Y, Y = acc ++ (pu (zigN S1) ++ (pu (zigN S2) ++ (pu (zigN S3) ++ bigN 8 x3))) := ⟨_, rfl⟩
          rw [← hY] at hE2
          have hyl : Y.length ≤ 11 + (k + 1) * 38 := by
            rw [hY, List.length_append]; omega
          generalize pu (zigN S1) = y1 at V1 hY
          generalize pu (zigN S2) = y2 at V2 hY
          generalize pu (zigN S3) = y3 at V3 hY
          generalize bigN 8 x3 = y4 at VB hY hb8
          have HY := Lib.hid hY; have HYL := Lib.hid hyl; have HB8 := Lib.hid hb8; have HE2 := Lib.hid hE2
          have V1 := Lib.hid V1; have V2 := Lib.hid V2; have V3 := Lib.hid V3; have VB := Lib.hid VB
          have wi1 : IntKind.i64.wrap ((x1 : Int) - (p1 : Int)) = S1 := by rw [e1, IntKind.wrap_i64]; omega
          clear hY hyl hb8 hE hE2 hent hel R1 R2 R3 E
          obtain ⟨w6, hw6⟩ : ∃ w6, w6 = wr.alloc (.cells #[.int .u32 (x1 : Nat), .int .i64 x2, .int .u64 (x3 : Nat), .int .u64 (x4 : Nat)] 47) := ⟨_, rfl⟩
          have HX6 := Lib.hid (show EBox w6 wr.heap.size (x1, x2, x3, x4) by rw [hw6]; exact heap_alloc_new wr _)
          have HP6 := Lib.hid (show EBox w6 q (p1, p2, p3, p4) by rw [hw6]; exact PB.out.alloc _)
          have HA6 := Lib.hid (show Rd w6 A5 (acc.map Bv) by rw [hw6]; exact RW.out.alloc _)
          have HB6 := Lib.hid (show RowKit.Below w.heap.size w w6 by rw [hw6]; exact BW.out.alloc BW.out.size _)
          have HW6 := Lib.hid hw6; clear hw6
          obtain ⟨g6, hg6⟩ : ∃ g, g = wr.heap.size := ⟨_, rfl⟩
          rw [← hg6] at HX6
          have HG6 := Lib.hid hg6; clear hg6 RW BW PB
          have HCELL := Lib.hid (fun W (hb : Below w6.heap.size w6 W) => (HX6.out.below hb).cells.2.2.1)
          have HB := Lib.hid (RowKit.Below.refl w6.heap.size w6)
          go_wp2_with fail
          rw [← HG6.out, ← HW6.out]
          clear Q0 Q1 Q2 Q3 c0 c1 c2 c3
          go_region_held3 (fun W' => W'.cell? ⟨g6, 2, none⟩ = some (.int .u64 (x3 : Nat))) (first | exact HCELL.out _ HB.out | exact HCELL.out _ (below_drewN HB.out _) | exact HCELL.out _ (HB.out.alloc HB.out.size _) | exact HCELL.out _ ((below_drewN HB.out 1).alloc HB.out.size _)) (first
          | (go_at_call 44; first
              | ((with_reducible refine (V1.out _).mono ?_); rintro e wq ⟨vq, rfl, hoq, hbq⟩; obtain ⟨A1, c1, rfl, hrq, -⟩ := own_rd hoq; (try (have hq1 := undrewJ hbq; clear hbq; have hbq := hq1; clear hq1)); (try (have hq1 := HR1.out.below hbq; have HR1 := Lib.hid hq1; clear hq1)); (try (have hq1 := HR2.out.below hbq; have HR2 := Lib.hid hq1; clear hq1)); (try (have hq1 := HR3.out.below hbq; have HR3 := Lib.hid hq1; clear hq1)); (try (have hq1 := HR4.out.below hbq; have HR4 := Lib.hid hq1; clear hq1)); have hq2 := HB.out.trans (hbq.mono HB.out.size); have HB := Lib.hid hq2; clear hq2 hbq; have HR1 := Lib.hid hrq; clear hoq hrq)
              | ((with_reducible refine (V2.out _).mono ?_); rintro e wq ⟨vq, rfl, hoq, hbq⟩; obtain ⟨A2, c2, rfl, hrq, -⟩ := own_rd hoq; (try (have hq1 := undrewJ hbq; clear hbq; have hbq := hq1; clear hq1)); (try (have hq1 := HR1.out.below hbq; have HR1 := Lib.hid hq1; clear hq1)); (try (have hq1 := HR2.out.below hbq; have HR2 := Lib.hid hq1; clear hq1)); (try (have hq1 := HR3.out.below hbq; have HR3 := Lib.hid hq1; clear hq1)); (try (have hq1 := HR4.out.below hbq; have HR4 := Lib.hid hq1; clear hq1)); have hq2 := HB.out.trans (hbq.mono HB.out.size); have HB := Lib.hid hq2; clear hq2 hbq; have HR2 := Lib.hid hrq; clear hoq hrq)
              | ((with_reducible refine (V3.out _).mono ?_); rintro e wq ⟨vq, rfl, hoq, hbq⟩; obtain ⟨A3, c3, rfl, hrq, -⟩ := own_rd hoq; (try (have hq1 := undrewJ hbq; clear hbq; have hbq := hq1; clear hq1)); (try (have hq1 := HR1.out.below hbq; have HR1 := Lib.hid hq1; clear hq1)); (try (have hq1 := HR2.out.below hbq; have HR2 := Lib.hid hq1; clear hq1)); (try (have hq1 := HR3.out.below hbq; have HR3 := Lib.hid hq1; clear hq1)); (try (have hq1 := HR4.out.below hbq; have HR4 := Lib.hid hq1; clear hq1)); have hq2 := HB.out.trans (hbq.mono HB.out.size); have HB := Lib.hid hq2; clear hq2 hbq; have HR3 := Lib.hid hrq; clear hoq hrq)
              | fail)
          | (go_at_call 45; go_must ((with_reducible refine (VB.out _).mono ?_); rintro e wq ⟨vq, rfl, hoq, hbq⟩; obtain ⟨A4, c4, rfl, hrq⟩ := own_rd8 hoq HB8.out; (try (have hq1 := undrewJ hbq; clear hbq; have hbq := hq1; clear hq1)); (try (have hq1 := HR1.out.below hbq; have HR1 := Lib.hid hq1; clear hq1)); (try (have hq1 := HR2.out.below hbq; have HR2 := Lib.hid hq1; clear hq1)); (try (have hq1 := HR3.out.below hbq; have HR3 := Lib.hid hq1; clear hq1)); (try (have hq1 := HR4.out.below hbq; have HR4 := Lib.hid hq1; clear hq1)); have hq2 := HB.out.trans (hbq.mono HB.out.size); have HB := Lib.hid hq2; clear hq2 hbq; have HR4 := Lib.hid hrq; clear hoq hrq))
          | (go_at_call 25; go_must (refine (join_five _ A5 A1 A2 A3 A4 c5 _ _ _ _ 8 acc y1 y2 y3 y4 Y (HA6.out.below HB.out) HR1.out HR2.out HR3.out HR4.out HB8.out HY.out (by have := HYL.out; omega)).mono ?_; rintro e wq ⟨A9, c9, rfl, hr9, hbq⟩; have HR9 := Lib.hid (hr9.lower (Nat.le_trans HB.out.size (Nat.le_succ _))); clear hr9; have hq2 := HB.out.trans (hbq.mono HB.out.size); have HB := Lib.hid hq2; clear hq2 hbq))
          | fail)
          all_goals
            have GX := HX6.out.below HB.out
            obtain ⟨X0, X1, X2, X3⟩ := GX.cells
            simp only at X0 X1 X2 X3
            have GP := Lib.hid (HP6.out.below HB.out)
            have GB := Lib.hid (HB6.out.trans (HB.out.mono HB6.out.size))
            clear GX
            go_wp2_with (first
              | (refine wpList_store_agg (o := ⟨none, _, _, _, _, _⟩) ?_ 47 (.tmp 8) (.tmp 93) ?_ q 0 [.int .u32 (x1 : Nat), .int .i64 x2, .int .u64 (x3 : Nat), .int .u64 (x4 : Nat)] ?_ ?_ 47 _ GP.out (by kernel_rfl) (by show 0 + 4 ≤ 4; decide) (by intro v hv; simp at hv; rcases hv with rfl | rfl | rfl | rfl <;> rfl) ?_; rfl; rfl; rfl; rfl; intro w10 hg10 hmv10 hs10)
              | fail)
            have hPn : EBox w10 q (x1, x2, x3, x4) := hg10
            have hBn : RowKit.Below w.heap.size w w10 := GB.out.trans (hmv10.belowB GB.out.size (fun i hi e => by omega))
            have hq6 : q < w6.heap.size := blk_lt HP6.out
            have hrn : Rd w10 A9 (Y.map Bv) := own_rdA (own_moved HR9.out (w' := w10) (fun g hg => hmv10.block g (HR9.out.lt g hg).2 (fun e => by have := (HR9.out.lt g hg).1; omega)))
            have HPn := Lib.hid hPn; have HRn := Lib.hid hrn; have HBn := Lib.hid hBn
            clear hPn hrn hBn X0 X1 X2 X3 hg10 hmv10 hs10
            go_roundw
            case rel => exact ⟨k + 1, (x1, x2, x3, x4), Y, A9, c9, by go_num, rfl, by omega, HYL.out, (show Aside _ from HXO.out), (show Aside _ from HPn.out), (show Aside _ from HRn.out), (show Aside _ from HBn.out), (show Aside _ from HE2.out)⟩
            case measure => simp [intOf]; omega
        · obtain rfl : k = ps.length := by omega
          have hE := E.out
          rw [List.drop_length] at hE
          simp only [entsB, List.append_nil] at hE
          subst hE
          go_wp2
          go_ret2
          exact ⟨A5, c5, rfl, RW.out, BW.out⟩
  · rw [if_pos hq0] at hR
    have hg : ((q : Int) != 0) = true := by rw [bne_iff_ne]; omega
    have HC := Lib.hid hch; have HR := Lib.hid hR
    clear hch hR hsm h1 h2 hx hf hl ho
    obtain ⟨kd, r, A, ca, ls, B, cb, ps⟩ := x
    unfold rvC at *
    simp only at *
    go_enter Tryd.func16, Tryd.ntmps16
    go_wp2_with fail
    refine (HC.out _ HB.out).mono ?_
    rintro e w1 ⟨rfl, hb1⟩
    have HB1 := Lib.hid (HB.out.trans (hb1.mono HB.out.size)); clear hb1
    go_wp2
    go_ret2
    rw [HR.out]
    exact ⟨none, 0, rfl, Rd.nil _ _, HB1.out⟩
end
end Go.Proofs.YtgogpngobdafaaaDoor
