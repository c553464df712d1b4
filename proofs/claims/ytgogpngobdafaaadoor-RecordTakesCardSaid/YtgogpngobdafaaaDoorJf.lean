/-
  A record's bytes: the program's own.
-/
import Derived.Test.YtgogpngobdafaaaDoorJe
import Derived.Test.YtgogpngobdafaaaDoorJc
import Derived.Test.YtgogpngobdafaaaDoorLp
namespace Go.Proofs.YtgogpngobdafaaaDoor
set_option linter.unusedVariables false
set_option linter.unusedSimpArgs false
open Go.RowKit
theorem own_rdA {w : World} {B c : Nat} {A : Option Addr} {xs : Bs} (h : w.ownsRow B 5 1 (.slice A xs.length c) xs.length (xs.map Bv)) : Rd w A (xs.map Bv) := by
  obtain ⟨A', c', e, hr, -⟩ := own_rd h
  injection e with e _ _
  subst e
  exact hr
theorem own_byte (w : World) (x : UInt8) (v : Value) (hv : v = Bv x) : (w.alloc (.cells #[v] 5)).ownsRow w.heap.size 5 1 (.slice (some ⟨w.heap.size, 0, none⟩) 1 1) 1 ([x].map Bv) := by
  subst hv
  exact ⟨rfl, .inr ⟨w.heap.size, 1, #[Bv x], rfl, Nat.le_refl _, heap_alloc_new w _, Nat.le_refl _, by decide, rfl, rfl⟩⟩
theorem labBytesJ_le : ∀ {l : List Lb}, Small l → (labBytes l).length ≤ l.length * 300
  | [], _ => by simp [labBytes]
  | x :: r, h => by
    obtain ⟨h1, h2⟩ := h x List.mem_cons_self
    have ih := labBytesJ_le (l := r) (fun y hy => h y (List.mem_cons_of_mem _ hy))
    have a1 := pu_len 10 x.1.size (by omega)
    have a2 := pu_len 10 x.2.size (by omega)
    rw [labBytes_cons, List.length_append, List.length_append, sizedP_len, sizedP_len, List.length_cons]
    omega
theorem entsB_le : ∀ (l : List En) (p : En), (entsB p l).length ≤ l.length * 38
  | [], p => by simp [entsB]
  | y :: r, p => by
    have := entsB_le r y
    have := entB_len p y
    simp only [entsB, List.length_append, List.length_cons]
    omega
section
set_option maxHeartbeats 1600000
set_option maxRecDepth 100000
/-- What Put hands back: bytes of the call's own, and what is wrong. -/
def PutRes (w : World) (r : Nat × Bs) (e : Ending) (w' : World) : Prop := ∃ A' c', e = .returned (.tuple #[.slice A' r.2.length c', .int .i64 (r.1 : Nat)]) ∧ w'.ownsRow w.heap.size 5 1 (.slice A' r.2.length c') r.2.length (r.2.map Bv) ∧ Below w.heap.size w w'
theorem put_any (x : Rv) (w : World) (hT : Tabs w) (hx : RvIs w x) (hf : Few x.ls) (hl : x.ps.length ≤ 1000000) (ho : RpOk x.p) :
    Calls Tryd.prog 15 #[.agg (rvC x)] w (PutRes w (putR x.p)) := by
  have hch := fun W (hb : Below w.heap.size w W) => check_any x W (hT.below hb) (hx.below hb) hf hl
  have hb := (RowKit.Below.refl w.heap.size w).alloc (Nat.le_refl _) (.cells (rvC x) 27)
  have HB := Lib.hid hb; clear hb
  obtain ⟨R, hR⟩ : ∃ R, R = putR x.p := ⟨_, rfl⟩
  rw [← hR]
  unfold putR at hR
  have hsm := @check_small x.p
  have h1 := @check_one x.p
  have h2 := @check_two x.p
  obtain ⟨q, hq⟩ : ∃ q, q = checkR x.p := ⟨_, rfl⟩
  rw [← hq] at hch hR hsm h1 h2
  have HQ := Lib.hid hq; clear hq
  by_cases hq0 : q = 0
  · subst hq0
    rw [if_neg (by simp)] at hR
    obtain ⟨hs1, hs2⟩ := hsm rfl
    have hlp := fun W (hb : Below w.heap.size w W) => put_bytes_any x.A x.ca x.ls W (hT.below hb) (hx.la.below hb) hf
    have hpp := fun W (hb : Below w.heap.size w W) => putp_any x.B x.cb x.ps W (hx.lb.below hb) ho.2 (by have : x.p.2.2.2.length = x.ps.length := rfl; omega)
    have hpu := fun W => pu_any x.r W (by have := ho.1; have : x.p.2.1 = x.r := rfl; omega)
    have hc1 := fun h => h1 h rfl
    have hc2 := fun h => h2 h rfl
    clear hsm h1 h2
    obtain ⟨kd, r, A, ca, ls, B, cb, ps⟩ := x
    unfold rvC Rv.p at *
    simp only at *
    have hr32 := ho.1
    simp only at hr32
    by_cases hk : kd = 1
    · subst hk
      obtain ⟨hc3, hc4, hc5⟩ := hc1 rfl
      have hbp : bytesP ls = (0, pu ls.length ++ labBytes ls) := by unfold bytesP; rw [if_neg (by omega)]
      rw [hbp] at hlp
      simp only at hlp
      unfold rowR at hR
      rw [if_pos rfl] at hR
      simp only at hR
      have hR2 : R = (0, ([1] ++ pu r) ++ (pu ls.length ++ labBytes ls)) := by rw [hR]; simp
      have hl1 : (pu r).length ≤ 10 := by have := pu_len 10 r (by omega); omega
      have hl2 : (pu ls.length ++ labBytes ls).length ≤ 100000 := by
        have := pu_len 10 ls.length (by omega)
        have := labBytesJ_le (right_small hc5).1
        rw [List.length_append]; omega
      generalize pu ls.length ++ labBytes ls = Y at hlp hR2 hl2
      generalize pu r = X at hpu hR2 hl1
      have HC := Lib.hid hch; have HLP := Lib.hid hlp; have HPU := Lib.hid hpu; have HR2 := Lib.hid hR2
      clear hch hlp hpu hpp hR hR2 hbp hc1 hc2 hc5 ho hx hf
      clear hc3 hc4
      go_enter Tryd.func15, Tryd.ntmps15
      go_wp2_with fail
      refine (HC.out _ HB.out).mono ?_
      rintro e w1 ⟨rfl, hb1⟩
      have hbx := (hb1.block w.heap.size (by simp)).trans (heap_alloc_new w _)
      have b0 := cell_blk hbx 0; have b1 := cell_blk hbx 1; have b2 := cell_blk hbx 2; have b3 := cell_blk hbx 3
      simp only [List.getElem?_toArray, List.getElem?_cons_zero, List.getElem?_cons_succ] at b0 b1 b2 b3
      have HB1 := Lib.hid (HB.out.trans (hb1.mono HB.out.size)); clear hb1
      have HO1 := Lib.hid (own_byte w1 1 (.int .u8 1) rfl)
      have HB2 := Lib.hid (HB1.out.alloc HB1.out.size (.cells #[.int .u8 1] 5))
      have hbx2 := (Below.heap_alloc w1 (.cells #[.int .u8 1] 5) _ (blk_lt hbx)).trans hbx
      have e0 := cell_blk hbx2 0; have e2 := cell_blk hbx2 2
      simp only [List.getElem?_toArray, List.getElem?_cons_zero, List.getElem?_cons_succ] at e0 e2
      have HBX2 := Lib.hid hbx2
      clear hbx hbx2
      go_wp2_with fail
      refine (HLP.out _ HB2.out).mono ?_
      rintro e w3 ⟨A3, c3, rfl, own3, hb3⟩
      have hbx := (hb3.block w.heap.size (blk_lt HBX2.out)).trans HBX2.out
      have d1 := cell_blk hbx 1
      simp only [List.getElem?_toArray, List.getElem?_cons_zero, List.getElem?_cons_succ] at d1
      have hs3 := HB2.out.size
      have HO3 := Lib.hid (own_moved (HO1.out.lower HB1.out.size) (w' := w3) (fun g hg => hb3.block g (HO1.out.lt g hg).2))
      have HY3 := Lib.hid own3
      have HB3 := Lib.hid (HB2.out.trans (hb3.mono hs3))
      clear hb3 own3 b0 b1 b2 b3 e0 e2 hbx HO1 HBX2
      go_wp2_with fail
      refine (HPU.out _).mono ?_
      rintro e w4 ⟨v4, rfl, own4, hb4⟩
      obtain ⟨A4, c4, rfl, hr4, -⟩ := own_rd own4
      have hs3' := HB3.out.size
      have HO4 := Lib.hid (own_moved HO3.out (w' := w4) (fun g hg => hb4.block g (HO3.out.lt g hg).2))
      have HY4 := Lib.hid (own_moved HY3.out (w' := w4) (fun g hg => hb4.block g (HY3.out.lt g hg).2))
      have HB4 := Lib.hid (HB3.out.trans (hb4.mono hs3'))
      have HR4 := Lib.hid hr4
      have hs4 := HB4.out.size
      obtain ⟨A3', c3', e3', hy4, -⟩ := own_rd HY4.out
      injection e3' with e3' _ _
      subst e3'
      clear hb4 own4 hr4 d1 HO3 HY3 hy4
      go_wp2_with (first
        | (at_builtin; (refine wpList_append_bytes rfl (.tmp 31) (.tmp 35) rfl w.heap.size _ [1] rfl HO4.out A4 c4 _ X rfl rfl HR4.out (by simp; omega) hs4 ?_; intro A5 c5 w5 own5 grow5; have hy5 := own_moved HY4.out (w' := w5) (fun g hg => grow5.block g (HY4.out.lt g hg).2 (fun e => by have h1 := (HY4.out.lt g hg).1; rw [World.size_alloc] at h1; simp only [Value.ownBlock] at e; injection e with e; simp at e; omega)); have HB5 := Lib.hid (HB4.out.grown grow5 hs4 (fun k h => (HO4.out.lt k h).1)); have HO5 := Lib.hid own5; have HY5 := Lib.hid hy5; clear own5 grow5 hy5))
        | (at_builtin; (refine wpList_append_bytes rfl (.tmp 36) (.tmp 37) rfl w.heap.size _ ([1] ++ X) rfl HO5.out A3 c3' _ Y rfl rfl (own_rdA HY5.out) (by simp; omega) HB5.out.size ?_; intro A6 c6 w6 own6 grow6; have HB6 := Lib.hid (HB5.out.grown grow6 HB5.out.size (fun k h => (HO5.out.lt k h).1)); have HO6 := Lib.hid own6; clear own6 grow6))
        | fail)
      go_ret2
      rw [HR2.out]
      have hlen : ([1] ++ X ++ Y).length = X.length + Y.length + 1 := by simp
      refine ⟨A6, c6, ?_, HO6.out, HB6.out⟩
      simp only [hlen]
      rfl
    · obtain ⟨hk2, hc2a, hc2b, hc2c, hc2d, hc2e⟩ := hc2 hk
      subst hk2
      unfold rowR at hR
      rw [if_neg (show ¬ (2 : Int) = 1 by decide)] at hR
      simp only at hR
      have hR2 : R = (0, [2] ++ (pu ps.length ++ entsB en0 ps)) := by rw [hR]; rfl
      have hl2 : (pu ps.length ++ entsB en0 ps).length ≤ 100000 := by
        have := pu_len 10 ps.length (by omega)
        have := entsB_le ps en0
        rw [List.length_append]; omega
      generalize pu ps.length ++ entsB en0 ps = X at hpp hR2 hl2
      have HC := Lib.hid hch; have HPP := Lib.hid hpp; have HR2 := Lib.hid hR2
      clear hch hlp hpu hpp hR hR2 hc1 hc2 ho hx hf hk hc2a hc2b hc2c hc2d hc2e
      go_enter Tryd.func15, Tryd.ntmps15
      go_wp2_with fail
      refine (HC.out _ HB.out).mono ?_
      rintro e w1 ⟨rfl, hb1⟩
      have hbx := (hb1.block w.heap.size (by simp)).trans (heap_alloc_new w _)
      have b0 := cell_blk hbx 0; have b1 := cell_blk hbx 1; have b2 := cell_blk hbx 2; have b3 := cell_blk hbx 3
      simp only [List.getElem?_toArray, List.getElem?_cons_zero, List.getElem?_cons_succ] at b0 b1 b2 b3
      have HB1 := Lib.hid (HB.out.trans (hb1.mono HB.out.size)); clear hb1
      have HO1 := Lib.hid (own_byte w1 2 (.int .u8 2) rfl)
      have HB2 := Lib.hid (HB1.out.alloc HB1.out.size (.cells #[.int .u8 2] 5))
      have hbx2 := (Below.heap_alloc w1 (.cells #[.int .u8 2] 5) _ (blk_lt hbx)).trans hbx
      have e0 := cell_blk hbx2 0; have e3 := cell_blk hbx2 3
      simp only [List.getElem?_toArray, List.getElem?_cons_zero, List.getElem?_cons_succ] at e0 e3
      clear hbx hbx2
      go_wp2_with fail
      refine (HPP.out _ HB2.out).mono ?_
      rintro e w3 ⟨v3, rfl, own3, hb3⟩
      obtain ⟨A4, c4, rfl, hr4, -⟩ := own_rd own3
      have hs3 := HB2.out.size
      have HO4 := Lib.hid (own_moved (HO1.out.lower HB1.out.size) (w' := w3) (fun g hg => hb3.block g (HO1.out.lt g hg).2))
      have HB4 := Lib.hid (HB2.out.trans (hb3.mono hs3))
      have hs4 := HB4.out.size
      have HR4 := Lib.hid hr4
      clear hb3 own3 hr4 b0 b1 b2 b3 e0 e3 HO1
      go_wp2_with (first
        | (at_builtin; (refine wpList_append_bytes rfl (.tmp 20) (.tmp 23) rfl w.heap.size _ [2] rfl HO4.out A4 c4 _ X rfl rfl HR4.out (by simp; omega) hs4 ?_; intro A5 c5 w5 own5 grow5; have HB5 := Lib.hid (HB4.out.grown grow5 hs4 (fun k h => (HO4.out.lt k h).1)); have HO5 := Lib.hid own5; clear own5 grow5))
        | fail)
      go_ret2
      rw [HR2.out]
      have hlen : ([2] ++ X).length = X.length + 1 := by simp
      refine ⟨A5, c5, ?_, HO5.out, HB5.out⟩
      simp only [hlen]
      rfl
  · rw [if_pos hq0] at hR
    have hg : ((q : Int) != 0) = true := by rw [bne_iff_ne]; omega
    have HC := Lib.hid hch; have HR := Lib.hid hR
    clear hch hR hsm h1 h2 hx hf hl ho hT
    obtain ⟨kd, r, A, ca, ls, B, cb, ps⟩ := x
    unfold rvC at *
    simp only at *
    go_enter Tryd.func15, Tryd.ntmps15
    go_wp2_with fail
    refine (HC.out _ HB.out).mono ?_
    rintro e w1 ⟨rfl, hb1⟩
    have HB1 := Lib.hid (HB.out.trans (hb1.mono HB.out.size)); clear hb1
    go_wp2
    go_ret2
    rw [HR.out]
    exact ⟨none, 0, rfl, World.ownsRow_nil _ _ _ _, HB1.out⟩
theorem size_any (x : Rv) (w : World) (hT : Tabs w) (hx : RvIs w x) (hf : Few x.ls) (hl : x.ps.length ≤ 1000000) (ho : RpOk x.p) :
    Calls Tryd.prog 20 #[.agg (rvC x)] w fun e w' => e = .returned (.int .i64 ((putR x.p).2.length : Nat)) ∧ Below w.heap.size w w' := by
  have hp := fun W (hb : Below w.heap.size w W) => put_any x W (hT.below hb) (hx.below hb) hf hl ho
  have hb := (RowKit.Below.refl w.heap.size w).alloc (Nat.le_refl _) (.cells (rvC x) 27)
  have HB := Lib.hid hb; clear hb
  generalize putR x.p = R at hp ⊢
  obtain ⟨er, Y⟩ := R
  have HP := Lib.hid hp; clear hp hx hT hf hl ho
  obtain ⟨kd, r, A, ca, ls, B, cb, ps⟩ := x
  unfold rvC at *
  simp only at *
  go_enter Tryd.func20, Tryd.ntmps20
  go_wp2_with fail
  refine (HP.out _ HB.out).mono ?_
  rintro e w1 ⟨A1, c1, rfl, own1, hb1⟩
  have HB1 := Lib.hid (HB.out.trans (hb1.mono HB.out.size)); clear hb1 own1
  simp only
  go_wp2
  go_ret
  exact ⟨rfl, HB1.out⟩
end
end Go.Proofs.YtgogpngobdafaaaDoor
