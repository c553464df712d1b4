/-
  What the laws of records share: the chapter's examples, and whether a record is short.
-/
import Derived.Test.YtgogpngobdafaaaDoorJf
import Derived.Test.YtgogpngobdafaaaDoorJq
import Derived.Test.YtgogpngobdafaaaDoorJg
import Derived.Test.YtgogpngobdafaaaDoorJu
import Derived.Test.YtgogpngobdafaaaDoorEq
namespace Go.Proofs.YtgogpngobdafaaaDoor
set_option linter.unusedVariables false
set_option linter.unusedSimpArgs false
open Go.RowKit
def labJ : List Lb := [(⟨#[97]⟩, ⟨#[120]⟩)]
theorem liveJ1 : putR (1, 1, labJ, []) = (0, [1, 1, 1, 1, 97, 1, 120]) := by decide +kernel
theorem liveJ2 : takeR [2, 1, 2, 10, 2, 0, 0, 0, 0, 0, 0, 0, 0] = ((2, 0, [], [(1, 5, 0, 1)]), 0) := by
  have h : sameR (takeR [2, 1, 2, 10, 2, 0, 0, 0, 0, 0, 0, 0, 0]).1 (2, 0, [], [(1, 5, 0, 1)]) = true ∧ (takeR [2, 1, 2, 10, 2, 0, 0, 0, 0, 0, 0, 0, 0]).2 = 0 := by decide +kernel
  exact Prod.ext ((same_iff _ _).1 h.1) h.2
theorem fewJ1 : Few labJ := ⟨by decide, by decide +kernel⟩
/-- Is a record a short one? -/
def fewR (x : Rp) : Bool := (x.2.2.1.take 40).all (fun y => decide (y.1.size ≤ 300) && decide (y.2.size ≤ 300)) && (decide (x.2.2.1.length ≤ 40) && decide (x.2.2.2.length ≤ 400))
theorem fewR_of {x : Rp} (h : fewR x = true) : Few x.2.2.1 ∧ x.2.2.1.length ≤ 40 ∧ x.2.2.2.length ≤ 400 := by
  unfold fewR at h
  simp only [Bool.and_eq_true, decide_eq_true_eq, List.all_eq_true] at h
  obtain ⟨h1, h2, h3⟩ := h
  rw [List.take_of_length_le h2] at h1
  exact ⟨⟨by omega, fun y hy => by have := h1 y hy; omega⟩, h2, h3⟩
theorem check_few {x : Rp} (h : checkR x = 0) : Few x.2.2.1 ∧ x.2.2.2.length ≤ 256 := by
  refine ⟨?_, (check_small h).2⟩
  by_cases h1 : x.1 = 1
  · obtain ⟨-, -, hr⟩ := check_one h1 h
    obtain ⟨a, b⟩ := right_small hr
    exact small_few a b
  · obtain ⟨-, -, e, -⟩ := check_two h1 h
    rw [e]
    exact ⟨by simp, fun y hy => by cases hy⟩
theorem rowR_le {x : Rp} (h : checkR x = 0) (hr : x.2.1 < 4294967296) : (rowR x).length ≤ 100000 := by
  obtain ⟨s1, s2⟩ := check_small h
  unfold rowR
  by_cases h1 : x.1 = 1
  · rw [if_pos h1]
    obtain ⟨-, -, hrt⟩ := check_one h1 h
    have a1 := pu_len 10 x.2.1 (by omega)
    have a2 := pu_len 10 x.2.2.1.length (by omega)
    have a3 := labBytesJ_le (right_small hrt).1
    simp only [List.length_cons, List.length_append]
    omega
  · rw [if_neg h1]
    have a2 := pu_len 10 x.2.2.2.length (by omega)
    have a3 := entsB_le x.2.2.2 en0
    simp only [List.length_cons, List.length_append]
    omega
section
set_option maxHeartbeats 1600000
set_option maxRecDepth 100000
theorem liveJ_put (w : World) (hT : Tabs w) : Calls Tryd.prog 15 #[.agg #[.int .i64 1, .int .u32 1, .slice (some ⟨w.heap.size, 0, none⟩) 1 1, .slice none 0 0]] (w.alloc (.cells #[.string ⟨#[97]⟩, .string ⟨#[120]⟩] 68)) fun e w' => ∃ A' c', e = .returned (.tuple #[.slice A' 7 c', .int .i64 0]) ∧ Rd w' A' (([1, 1, 1, 1, 97, 1, 120] : Bs).map Bv) ∧ Below w.heap.size w w' := by
  have hb : RowKit.Below w.heap.size w (w.alloc (.cells #[.string ⟨#[97]⟩, .string ⟨#[120]⟩] 68)) := (RowKit.Below.refl _ w).alloc (Nat.le_refl _) _
  have hc := put_any ⟨1, 1, some ⟨w.heap.size, 0, none⟩, 1, labJ, none, 0, []⟩ (w.alloc (.cells (lcells labJ).toArray 68)) (hT.below hb) ⟨rd_row' w (lcells labJ) 68, Rd.nil _ _⟩ fewJ1 (Nat.zero_le _) ⟨by show 1 < 4294967296; decide, fun e he => by cases he⟩
  have e : putR (Rv.p ⟨1, 1, some ⟨w.heap.size, 0, none⟩, 1, labJ, none, 0, []⟩) = (0, [1, 1, 1, 1, 97, 1, 120]) := liveJ1
  rw [e] at hc
  refine (show Calls Tryd.prog 15 #[.agg #[.int .i64 1, .int .u32 1, .slice (some ⟨w.heap.size, 0, none⟩) 1 1, .slice none 0 0]] (w.alloc (.cells #[.string ⟨#[97]⟩, .string ⟨#[120]⟩] 68)) _ from hc).mono ?_
  rintro e w' ⟨A', c', he, ho, hb'⟩
  exact ⟨A', c', he, own_rdA ho, hb.trans (hb'.mono hb.size)⟩
theorem liveJ_take (w : World) (hT : Tabs w) : Calls Tryd.prog 21 #[.slice (some ⟨w.heap.size, 0, none⟩) 13 13] (w.alloc (.cells #[.int .u8 2, .int .u8 1, .int .u8 2, .int .u8 10, .int .u8 2, .int .u8 0, .int .u8 0, .int .u8 0, .int .u8 0, .int .u8 0, .int .u8 0, .int .u8 0, .int .u8 0] 5)) fun e w' => ∃ A ca B cb, e = .returned (.tuple #[.agg #[.int .i64 2, .int .u32 0, .slice A 0 ca, .slice B 1 cb], .int .i64 0]) ∧ Rd w' B (ecells [(1, 5, 0, 1)]) ∧ Below w.heap.size w w' := by
  have hb : RowKit.Below w.heap.size w (w.alloc (.cells #[.int .u8 2, .int .u8 1, .int .u8 2, .int .u8 10, .int .u8 2, .int .u8 0, .int .u8 0, .int .u8 0, .int .u8 0, .int .u8 0, .int .u8 0, .int .u8 0, .int .u8 0] 5)) := (RowKit.Below.refl _ w).alloc (Nat.le_refl _) _
  have hc := take13_any (some ⟨w.heap.size, 0, none⟩) 13 13 [2, 1, 2, 10, 2, 0, 0, 0, 0, 0, 0, 0, 0] (w.alloc (.cells (([2, 1, 2, 10, 2, 0, 0, 0, 0, 0, 0, 0, 0] : Bs).map Bv).toArray 5)) (hT.below hb) rfl (rd_row' w _ 5) (by decide) (by decide) (by decide)
  rw [liveJ2] at hc
  refine (show Calls Tryd.prog 21 #[.slice (some ⟨w.heap.size, 0, none⟩) 13 13] (w.alloc (.cells #[.int .u8 2, .int .u8 1, .int .u8 2, .int .u8 10, .int .u8 2, .int .u8 0, .int .u8 0, .int .u8 0, .int .u8 0, .int .u8 0, .int .u8 0, .int .u8 0, .int .u8 0] 5)) _ from hc).mono ?_
  rintro e w' ⟨⟨kd, r, A, ca, ls, B, cb, ps⟩, he, hp, hi, hb'⟩
  unfold Rv.p at hp
  simp only [Prod.mk.injEq] at hp
  obtain ⟨rfl, rfl, rfl, rfl⟩ := hp
  exact ⟨A, ca, B, cb, he, hi.lb, hb.trans (hb'.mono hb.size)⟩
theorem eqEn1 (w : World) : (binOp .eql 47 (.agg #[.int .u32 1, .int .i64 5, .int .u64 0, .int .u64 1]) (.agg #[.int .u32 1, .int .i64 5, .int .u64 0, .int .u64 1])).run Tryd.prog w = .ok (.bool true) w := by
  have hS : Tryd.prog.underlying 47 = some (.struct (Tryd.prog.fieldsOf 47)) := by kernel_rfl
  have hp : Tryd.prog.stoodInHeld 47 = false := by kernel_rfl
  rw [run_eql_struct, show (10000 : Nat) = 9999 + 1 from rfl, run_equalIn_agg w 9999 47 _ _ hS hp]
  simp only [Program.fieldsOf, Tryd.underlying47]
  go_simp
theorem liveJ_any (w : World) (hT : Tabs w) : Calls Tryd.prog 13 #[] w fun e w' => e = .returned (.bool true) ∧ Below w.heap.size w w' := by
  have h1 := liveJ_put w hT
  have H1 := Lib.hid h1; clear h1
  have HT := Lib.hid hT; clear hT
  have heq := fun u => eqEn1 u
  have hgd := fun op a b u => guardEn op a b (1, 5, 0, 1) (1, 5, 0, 1) u
  unfold aggEn boxEn at hgd
  simp only at hgd
  go_enter Tryd.func13, Tryd.ntmps13
  go_wp2_with fail
  refine H1.out.mono ?_
  rintro e w1 ⟨A1, c1, rfl, hr1, hb1⟩
  have h2 := liveJ_take w1 (HT.out.below hb1)
  have HR1 := Lib.hid hr1; have HB1 := Lib.hid hb1; have H2 := Lib.hid h2; clear hr1 hb1 h2 H1
  go_wp2_with fail
  refine H2.out.mono ?_
  rintro e w2 ⟨A, ca, B, cb, rfl, hr2, hb2⟩
  obtain ⟨bb, bo, rfl, c0, c1', c2, c3⟩ := en_at hr2 (k := 0) (x := (1, 5, 0, 1)) rfl
  simp only [Nat.zero_mul, Nat.add_zero] at c0 c1' c2 c3
  have hbw := HB1.out.trans (hb2.mono HB1.out.size)
  have hbx : RowKit.Below w2.heap.size w2 ((w2.alloc (.cells #[.int .i64 2, .int .u32 0, .slice A 0 ca, .slice (some ⟨bb, bo, none⟩) 1 cb] 27)).alloc (.cells #[.int .u8 1, .int .u8 1, .int .u8 1, .int .u8 1, .int .u8 97, .int .u8 1, .int .u8 120] 5)) := ((RowKit.Below.refl _ _).alloc (Nat.le_refl _) _).alloc (by simp) _
  have hq := equal_at A1 (some ⟨w2.heap.size + 1, 0, none⟩) c1 7 7 7 [1, 1, 1, 1, 97, 1, 120] [1, 1, 1, 1, 97, 1, 120] _ rfl rfl ((HR1.out.below hb2).below hbx) (by
    have h := rd_row' (w2.alloc (.cells #[.int .i64 2, .int .u32 0, .slice A 0 ca, .slice (some ⟨bb, bo, none⟩) 1 cb] 27)) (([1, 1, 1, 1, 97, 1, 120] : Bs).map Bv) 5
    rw [World.size_alloc] at h
    exact h) (by decide) (by decide)
  rw [decide_eq_true rfl] at hq
  have HQ := Lib.hid hq; have HBW := Lib.hid (hbw.trans (hbx.mono hbw.size)); have HR2 := Lib.hid (hr2.below hbx)
  have h3 := (Below.heap_alloc (w2.alloc (.cells #[.int .i64 2, .int .u32 0, .slice A 0 ca, .slice (some ⟨bb, bo, none⟩) 1 cb] 27)) (.cells #[.int .u8 1, .int .u8 1, .int .u8 1, .int .u8 1, .int .u8 97, .int .u8 1, .int .u8 120] 5) w2.heap.size (by simp)).trans (heap_alloc_new w2 _)
  have H3 := Lib.hid h3
  clear hq hbw hbx hr2 h3 hb2 c0 c1' c2 c3
  go_wp2_with fail
  refine HQ.out.mono ?_
  rintro e w3 ⟨rfl, n, hw3⟩
  have hr3 : Rd w3 (some ⟨bb, bo, none⟩) (ecells [(1, 5, 0, 1)]) := by rw [hw3]; exact HR2.out
  have h33 : w3.heap[w2.heap.size]? = some (.cells #[.int .i64 2, .int .u32 0, .slice A 0 ca, .slice (some ⟨bb, bo, none⟩) 1 cb] 27 (0, 0)) := by rw [hw3]; exact H3.out
  have b3 := cell_blk h33 3
  simp only [List.getElem?_toArray, List.getElem?_cons_zero, List.getElem?_cons_succ] at b3
  obtain ⟨bb', bo', ee, c0, c1', c2, c3⟩ := en_at hr3 (k := 0) (x := (1, 5, 0, 1)) rfl
  injection ee with ee; injection ee with ee1 ee2 _; subst ee1; subst ee2
  simp only [Nat.zero_mul, Nat.add_zero] at c0 c1' c2 c3
  have HB3 := Lib.hid (show Below w.heap.size w w3 by rw [hw3]; exact below_drewN HBW.out n)
  clear hr3 h33 hw3
  go_wp2
  go_ret
  exact ⟨rfl, HB3.out⟩
theorem fewJ_any (x : Rv) (w : World) (hx : RvIs w x) (hc : x.ls.length ≤ x.ca) :
    Calls Tryd.prog 14 #[.agg (rvC x)] w fun e w' => e = .returned (.bool (fewR x.p)) ∧ Below w.heap.size w w' := by
  obtain ⟨R, hR⟩ : ∃ R, R = fewR x.p := ⟨_, rfl⟩
  rw [← hR]
  have hb := (RowKit.Below.refl w.heap.size w).alloc (Nat.le_refl _) (.cells (rvC x) 27)
  have hbx := heap_alloc_new w (.cells (rvC x) 27)
  have hxl := hx.la
  obtain ⟨kd, r, A, ca, ls, B, cb, ps⟩ := x
  unfold rvC at hb hbx ⊢
  simp only at hb hbx hc hxl ⊢
  have hst : R = (((ls.take 40).drop 0).all (fun y => decide (y.1.size ≤ 300) && decide (y.2.size ≤ 300)) && (decide (ls.length ≤ 40) && decide (ps.length ≤ 400))) := hR
  obtain ⟨m, hm⟩ : ∃ m, m = min ls.length 40 := ⟨_, rfl⟩
  have hml : (ls.take 40).length = m := by rw [List.length_take, hm, Nat.min_comm]
  have hmin : min (ls.length : Int) 40 = (m : Int) := by omega
  have hmin2 : (if (ls.length : Int) < 40 then (ls.length : Int) else 40) = (m : Int) := by split <;> omega
  have hmin3 : (if (40 : Int) < (ls.length : Int) then (40 : Int) else (ls.length : Int)) = (m : Int) := by split <;> omega
  have hmc : (m : Int) ≤ (ca : Int) := by omega
  have hmc' : m ≤ ca := by omega
  have hm40 : m ≤ 40 := by omega
  have hrd40 := rd_take2 hxl 40
  generalize hL : ls.take 40 = L at hst hml hrd40
  have HST := Lib.hid hst; have HRD := Lib.hid hrd40; have HML := Lib.hid hml; have HB := Lib.hid hb; have HBX := Lib.hid hbx
  clear hst hrd40 hml hb hbx hR hx hxl hL hm
  go_enter Tryd.func14, Tryd.ntmps14
  go_wp2
  obtain ⟨w1, hw1⟩ : ∃ w1, w1 = w.alloc (.cells #[.int .i64 kd, .int .u32 (r : Nat), .slice A ls.length ca, .slice B ps.length cb] 27) := ⟨_, rfl⟩
  rw [← hw1] at HB HBX ⊢
  clear hw1 hmin hmin2 hmin3
  go_loopw [13] (fun s13 wr => ∃ k : Nat, s13 = .int .i64 k ∧ k ≤ m ∧ Aside (RowKit.Below w1.heap.size w1 wr) ∧ Aside (R = ((L.drop k).all (fun y => decide (y.1.size ≤ 300) && decide (y.2.size ≤ 300)) && (decide (ls.length ≤ 40) && decide (ps.length ≤ 400))))) (fun s13 _ => m - (intOf s13).toNat)
  case atStart => exact ⟨0, rfl, by omega, RowKit.Below.refl _ _, HST.out⟩
  case round =>
    obtain ⟨k, rfl, hk, BW, E⟩ := hrel
    have k0 : (0 : Int) ≤ (k : Int) := by omega
    have hbw := HB.out.trans (BW.out.mono HB.out.size)
    by_cases hlt : k < m
    · have k1 : (k : Int) < (m : Int) := by omega
      obtain ⟨b, off, rfl, c0, c1⟩ := lb_at (HRD.out.below hbw) (k := k) (by rw [HML.out]; exact hlt)
      have hE := E.out
      rw [List.drop_eq_getElem_cons (by rw [HML.out]; exact hlt), List.all_cons] at hE
      generalize L[k]'(by rw [HML.out]; exact hlt) = x at c0 c1 hE
      obtain ⟨x1, x2⟩ := x
      simp only at c0 c1 hE
      have HBW := Lib.hid (BW.out.alloc BW.out.size (.cells #[.string x1, .string x2] 68))
      have HBV := Lib.hid (hbw.alloc hbw.size (.cells #[.string x1, .string x2] 68))
      clear E BW hbw
      by_cases h1 : x1.size ≤ 300
      · have g1 : ¬ (300 : Int) < (x1.size : Int) := by omega
        rw [decide_eq_true h1, Bool.true_and] at hE
        by_cases h2 : x2.size ≤ 300
        · have g2 : ¬ (300 : Int) < (x2.size : Int) := by omega
          rw [decide_eq_true h2, Bool.true_and] at hE
          have HE := Lib.hid hE; clear hE
          go_wp2
          go_roundw
          case rel => exact ⟨k + 1, by go_num, by omega, (show Aside _ from HBW.out), (show Aside _ from HE.out)⟩
          case measure => simp [intOf]; omega
        · have g2 : (300 : Int) < (x2.size : Int) := by omega
          rw [decide_eq_false h2, Bool.false_and, Bool.false_and] at hE
          subst hE
          go_wp2
          go_ret
          exact ⟨rfl, HBV.out⟩
      · have g1 : (300 : Int) < (x1.size : Int) := by omega
        rw [decide_eq_false h1, Bool.false_and, Bool.false_and, Bool.false_and] at hE
        subst hE
        go_wp2
        go_ret
        exact ⟨rfl, HBV.out⟩
    · obtain rfl : k = m := by omega
      have hE := E.out
      rw [List.drop_eq_nil_of_le (by rw [HML.out]; exact Nat.le_refl _), List.all_nil, Bool.true_and] at hE
      have hbx := (BW.out.block _ (blk_lt HBX.out)).trans HBX.out
      have b2 := cell_blk hbx 2; have b3 := cell_blk hbx 3
      simp only [List.getElem?_toArray, List.getElem?_cons_zero, List.getElem?_cons_succ] at b2 b3
      have HBV := Lib.hid hbw
      clear hbx hbw E BW
      by_cases h1 : ls.length ≤ 40
      · have g1 : (ls.length : Int) ≤ 40 := by omega
        rw [decide_eq_true h1, Bool.true_and] at hE
        by_cases h2 : ps.length ≤ 400
        · have g2 : (ps.length : Int) ≤ 400 := by omega
          rw [decide_eq_true h2] at hE
          subst hE
          go_wp2
          go_ret
          exact ⟨rfl, HBV.out⟩
        · have g2 : ¬ (ps.length : Int) ≤ 400 := by omega
          rw [decide_eq_false h2] at hE
          subst hE
          go_wp2
          go_ret
          exact ⟨rfl, HBV.out⟩
      · have g1 : ¬ (ls.length : Int) ≤ 40 := by omega
        rw [decide_eq_false h1, Bool.false_and] at hE
        subst hE
        go_wp2
        go_ret
        exact ⟨rfl, HBV.out⟩
end
end Go.Proofs.YtgogpngobdafaaaDoor
