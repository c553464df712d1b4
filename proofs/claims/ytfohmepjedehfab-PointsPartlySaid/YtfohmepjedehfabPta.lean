/-
  Two lists merged: the program's own.
-/
import Derived.Deep.AppendLies
import Derived.Laws.MakeOwn
import Derived.Test.YtfohmepjedehfabPt5
namespace Go.Proofs.Ytfohmepjedehfab
set_option linter.unusedVariables false
set_option linter.unusedSimpArgs false
open Go.RowKit
/-- What is merged, and the error. -/
def mergeP (a b : List Pt) : List Pt × Int := if rightB a = false ∨ rightB b = false then ([], 1) else (mergeL a b, 0)
def MergeOut (w : World) (r : List Pt × Int) (e : Ending) (w' : World) : Prop := ∃ A' c', e = .returned (.tuple #[.slice A' r.1.length c', .int .i64 r.2]) ∧ r.1.length ≤ c' ∧
  w'.ownsRow w.heap.size 25 3 (.slice A' r.1.length c') r.1.length (pcells r.1) ∧ RowKit.Below w.heap.size w w'
def lenV : Value → Nat
  | .slice _ n _ => n
  | _ => 0
theorem slice_one (A : Option Addr) (n c : Nat) (hn : n + 1 ≤ c) : ∃ A', (∀ W, (Instr.sliceAt 22 (.slice A (n + 1) c) (some (.int .i64 1)) none none).run Try.prog W = .ok (.slice A' n (c - 1)) W) ∧ ∀ (W : World) (x : Pt) (l : List Pt), l.length = n → Rd W A (pcells (x :: l)) → Rd W A' (pcells l) := by
  obtain ⟨A', h1, h2⟩ := slice_tail A (n + 1) c 1 (by omega) hn
  exact ⟨A', h1, fun W x l hl hr => h2 W (x :: l) (by simp [hl]) hr⟩
theorem run_make_own_pt (w : World) (c : Nat) (hc : c ≤ 100000) : ∃ w', (Instr.makeSlice 22 (.int .i64 0) (.int .i64 (c : Int))).run Try.prog w = .ok (.slice (some ⟨w.heap.size, 0, none⟩) 0 c) w' ∧ w'.ownsRow w.heap.size 25 3 (.slice (some ⟨w.heap.size, 0, none⟩) 0 c) 0 [] ∧ RowKit.Below w.heap.size w w' := by
  obtain ⟨i0, hi, hz0, hz1, hz2⟩ := info_parts infoPt
  obtain ⟨w', h1, h2, h3⟩ := run_makeSlice_owned (P := Try.prog) w w.heap.size 22 25 i0 (.agg #[.int .i64 0, .int .u64 0, .int .u64 0]) 3 Try.underlying22 hi hz0 hz1 .i64 .i64 c (by omega) (by rw [hz2]; omega) (by unfold maxLen; omega) (Nat.le_refl _)
  exact ⟨w', h1, h2, (RowKit.Below.refl _ w).grown h3 (Nat.le_refl _) (by simp)⟩
section
set_option maxHeartbeats 3200000
set_option maxRecDepth 100000
theorem merge_any (A B : Option Addr) (ca cb : Nat) (a b : List Pt) (w : World) (ha : Rd w A (pcells a)) (hb : Rd w B (pcells b)) (hca : a.length ≤ ca) (hcb : b.length ≤ cb) (hla : a.length ≤ 1500) (hlb : b.length ≤ 1500) :
    Calls Try.prog 22 #[.slice A a.length ca, .slice B b.length cb] w (MergeOut w (mergeP a b)) := by
  obtain ⟨R, hR⟩ : ∃ R, R = mergeP a b := ⟨_, rfl⟩
  rw [← hR]
  have HR := Lib.hid hR; have HA := Lib.hid ha; have HB := Lib.hid hb
  clear hR ha hb
  unfold mergeP at HR
  have HRA := Lib.hid (fun (W' : World) (hb : RowKit.Below w.heap.size w W') => right_any A ca a W' (HA.out.below hb) (by omega))
  have HRB := Lib.hid (fun (W' : World) (hb : RowKit.Below w.heap.size w W') => right_any B cb b W' (HB.out.below hb) (by omega))
  cases hra : rightB a with
  | false =>
    rw [if_pos (.inl hra)] at HR
    rw [hra] at HRA
    clear hra
    go_enter Try.func22, Try.ntmps22
    go_wp2_with fail
    refine (HRA.out w (RowKit.Below.refl _ _)).mono ?_
    rintro e w1 ⟨rfl, hb1⟩
    go_wp2
    go_ret2
    exact ⟨none, 0, by rw [HR.out]; rfl, by rw [HR.out]; exact Nat.le_refl _, by rw [HR.out]; exact World.ownsRow_nil _ _ _ _, hb1⟩
  | true =>
    rw [hra] at HRA
    cases hrb : rightB b with
    | false =>
      rw [if_pos (.inr hrb)] at HR
      rw [hrb] at HRB
      clear hra hrb
      go_enter Try.func22, Try.ntmps22
      go_wp2_with fail
      refine (HRA.out w (RowKit.Below.refl _ _)).mono ?_
      rintro e w1 ⟨rfl, hb1⟩
      go_wp2_with fail
      refine (HRB.out w1 hb1).mono ?_
      rintro e w2 ⟨rfl, hb2⟩
      go_wp2
      go_ret2
      exact ⟨none, 0, by rw [HR.out]; rfl, by rw [HR.out]; exact Nat.le_refl _, by rw [HR.out]; exact World.ownsRow_nil _ _ _ _, hb1.trans (hb2.mono hb1.size)⟩
    | true =>
      rw [if_neg (by rw [hra, hrb]; simp)] at HR
      rw [hrb] at HRB
      clear hra hrb
      have q1 : IntKind.i64.wrap ((a.length : Int) + (b.length : Int)) = (a.length : Int) + (b.length : Int) := IntWalk.i64_in _ (by omega)
      go_enter Try.func22, Try.ntmps22
      go_wp2_with fail
      refine (HRA.out w (RowKit.Below.refl _ _)).mono ?_
      rintro e w1 ⟨rfl, hb1⟩
      go_wp2_with fail
      refine (HRB.out w1 hb1).mono ?_
      rintro e w2 ⟨rfl, hb2⟩
      have hb3 := hb1.trans (hb2.mono hb1.size)
      obtain ⟨w3, hmk, hown, hbm⟩ := run_make_own_pt w2 (a.length + b.length) (by omega)
      rw [show ((a.length + b.length : Nat) : Int) = (a.length : Int) + (b.length : Int) by omega] at hmk
      have HO3 := Lib.hid (hown.lower hb3.size)
      have HB3 := Lib.hid (hb3.trans (hbm.mono hb3.size))
      clear hb1 hb2 hb3 hown hbm
      go_wp2_with fail
      go_loopw [0, 1, 6] (fun s0 s1 s6 wr => ∃ (x y acc : List Pt) (A1 B1 : Option Addr) (c1 c2 : Nat), s0 = .slice A1 x.length c1 ∧ s1 = .slice B1 y.length c2 ∧ x.length ≤ c1 ∧ y.length ≤ c2 ∧ acc.length + x.length + y.length ≤ 3000 ∧ Aside (Rd w A1 (pcells x)) ∧ Aside (Rd w B1 (pcells y)) ∧ Aside (wr.ownsRow w.heap.size 25 3 s6 acc.length (pcells acc)) ∧ Aside (RowKit.Below w.heap.size w wr) ∧ Aside (R = (acc ++ mergeL x y, 0))) (fun s0 s1 _ _ => lenV s0 + lenV s1)
      case atStart => exact ⟨a, b, [], A, B, ca, cb, rfl, rfl, hca, hcb, by simp; omega, HA.out, HB.out, HO3.out, HB3.out, by rw [HR.out]; rfl⟩
      case round =>
        obtain ⟨x, y, acc, A1, B1, c1, c2, rfl, rfl, hc1, hc2, hlen, RA, RB, OW, BW, E⟩ := hrel
        obtain ⟨A6, c6, hv6, -, hac, -⟩ := own_rd_pt OW.out
        subst hv6
        have hsz := BW.out.size
        by_cases hx0 : x.length = 0
        · have hm : mergeL x y = x ++ y := by rw [List.eq_nil_of_length_eq_zero hx0]; simp [mergeL]
          have nx : ¬ (0 : Int) < (x.length : Int) := by omega
          have hE := E.out
          rw [hm, ← List.append_assoc] at hE
          clear hx0
          have HE := Lib.hid hE; have HOZ := Lib.hid OW.out; have HBZ := Lib.hid BW.out
          have HRX := Lib.hid (RA.out.below BW.out); have HRY := Lib.hid RB.out
          clear hE E OW BW RA RB hm
          have hend : True := trivial
          all_goals
            go_wp2_with (first
              | (at_builtin; (refine wpList_append_pt rfl (.tmp 71) (.tmp 72) rfl rfl w.heap.size _ acc rfl HOZ.out _ _ x rfl HRX.out (by omega) hsz ?_; intro v4 w4 own4 grow4; have hb4 : RowKit.Below w.heap.size w w4 := HBZ.out.grown grow4 hsz (fun k h => (HOZ.out.lt k h).1); have HO4 := Lib.hid own4; have HB4 := Lib.hid hb4; have hs4 := hb4.size; clear own4 grow4 hb4))
              | (at_builtin; (refine wpList_append_pt rfl (.tmp 73) (.tmp 74) rfl rfl w.heap.size _ (acc ++ x) rfl HO4.out _ _ y rfl (HRY.out.below HB4.out) (by simp; omega) hs4 ?_; intro v5 w5 own5 grow5; have hb5 : RowKit.Below w.heap.size w w5 := HB4.out.grown grow5 hs4 (fun k h => (HO4.out.lt k h).1); obtain ⟨A5, c5, e5, -, hc5, -⟩ := own_rd_pt own5; subst e5; have HO5 := Lib.hid own5; have HB5 := Lib.hid hb5; have hlen5 : ¬ (65536 : Int) < ((acc ++ x ++ y).length : Int) := (by simp; omega); clear own5 grow5 hb5))
              | fail)
            go_ret2
            exact ⟨A5, c5, by rw [HE.out]; simp, by rw [HE.out]; exact hc5, by rw [HE.out]; exact HO5.out, HB5.out⟩
        · by_cases hy0 : y.length = 0
          · have hm : mergeL x y = x ++ y := by rw [List.eq_nil_of_length_eq_zero hy0, merge_nil]; simp
            have nx : (0 : Int) < (x.length : Int) := by omega
            have ny : ¬ (0 : Int) < (y.length : Int) := by omega
            have hE := E.out
            rw [hm, ← List.append_assoc] at hE
            clear hy0 hx0
            have HE := Lib.hid hE; have HOZ := Lib.hid OW.out; have HBZ := Lib.hid BW.out
            have HRX := Lib.hid (RA.out.below BW.out); have HRY := Lib.hid RB.out
            clear hE E OW BW RA RB hm
            have hend : True := trivial
            all_goals
              go_wp2_with (first
                | (at_builtin; (refine wpList_append_pt rfl (.tmp 71) (.tmp 72) rfl rfl w.heap.size _ acc rfl HOZ.out _ _ x rfl HRX.out (by omega) hsz ?_; intro v4 w4 own4 grow4; have hb4 : RowKit.Below w.heap.size w w4 := HBZ.out.grown grow4 hsz (fun k h => (HOZ.out.lt k h).1); have HO4 := Lib.hid own4; have HB4 := Lib.hid hb4; have hs4 := hb4.size; clear own4 grow4 hb4))
                | (at_builtin; (refine wpList_append_pt rfl (.tmp 73) (.tmp 74) rfl rfl w.heap.size _ (acc ++ x) rfl HO4.out _ _ y rfl (HRY.out.below HB4.out) (by simp; omega) hs4 ?_; intro v5 w5 own5 grow5; have hb5 : RowKit.Below w.heap.size w w5 := HB4.out.grown grow5 hs4 (fun k h => (HO4.out.lt k h).1); obtain ⟨A5, c5, e5, -, hc5, -⟩ := own_rd_pt own5; subst e5; have HO5 := Lib.hid own5; have HB5 := Lib.hid hb5; have hlen5 : ¬ (65536 : Int) < ((acc ++ x ++ y).length : Int) := (by simp; omega); clear own5 grow5 hb5))
                | fail)
              go_ret2
              exact ⟨A5, c5, by rw [HE.out]; simp, by rw [HE.out]; exact hc5, by rw [HE.out]; exact HO5.out, HB5.out⟩
          · obtain ⟨p, x, rfl⟩ : ∃ p t, x = p :: t := by cases x with
              | nil => exact absurd rfl hx0
              | cons p t => exact ⟨p, t, rfl⟩
            obtain ⟨q, y, rfl⟩ : ∃ q t, y = q :: t := by cases y with
              | nil => exact absurd rfl hy0
              | cons q t => exact ⟨q, t, rfl⟩
            clear hx0 hy0
            have hrx := RA.out.below BW.out
            have hry := RB.out.below BW.out
            obtain ⟨b1, o1, rfl, c0, c3, c4⟩ := pt_at' hrx (k := 0) (q := p) rfl
            obtain ⟨b2, o2, rfl, d0, d1, d2⟩ := pt_at' hry (k := 0) (q := q) rfl
            simp only [Nat.zero_mul, Nat.add_zero] at c0 c3 c4 d0 d1 d2
            have HPX := Lib.hid hrx; have HPY := Lib.hid hry
            have hE := E.out
            rw [mergeL] at hE
            have HE := Lib.hid hE; have HOZ := Lib.hid OW.out; have HBZ := Lib.hid BW.out; have HRX := Lib.hid RA.out; have HRY := Lib.hid RB.out
            clear hrx hry hE E OW BW RA RB
            obtain ⟨A2, t1, tv1⟩ := slice_one (some ⟨b1, o1, none⟩) x.length c1 hc1
            obtain ⟨B2, t2, tv2⟩ := slice_one (some ⟨b2, o2, none⟩) y.length c2 hc2
            have HT1 := Lib.hid tv1; have HT2 := Lib.hid tv2
            clear tv1 tv2
            simp only [List.length_cons] at hlen hc1 hc2
            have nx : (0 : Int) < (x.length : Int) + 1 := by omega
            have ny : (0 : Int) < (y.length : Int) + 1 := by omega
            obtain ⟨p1, p2, p3⟩ := p
            obtain ⟨q1', q2, q3⟩ := q
            simp only at c0 c3 c4 d0 d1 d2
            have hl1 : b1 < wr.heap.size := World.block_lt_of_cell? wr _ c0
            have hl2 : b2 < wr.heap.size := World.block_lt_of_cell? wr _ d0
            have Z := fun o o' => ((RowKit.Below.refl wr.heap.size wr).alloc (Nat.le_refl _) o).alloc (by simp) o'
            have za := fun o => pt_cells (HPX.out.alloc o) (k := 0) rfl
            have zb := fun o => pt_cells (HPY.out.alloc o) (k := 0) rfl
            have zc := fun o o' => pt_cells (HPX.out.below (Z o o')) (k := 0) rfl
            have zd := fun o o' => pt_cells (HPY.out.below (Z o o')) (k := 0) rfl
            simp only [Nat.zero_mul, Nat.add_zero] at za zb zc zd
            have za0 := fun o => (za o).1; have za1 := fun o => (za o).2.1; have za2 := fun o => (za o).2.2
            have zb0 := fun o => (zb o).1; have zb1 := fun o => (zb o).2.1; have zb2 := fun o => (zb o).2.2
            have zc0 := fun o o' => (zc o o').1; have zc1 := fun o o' => (zc o o').2.1; have zc2 := fun o o' => (zc o o').2.2
            have zd0 := fun o o' => (zd o o').1; have zd1 := fun o o' => (zd o o').2.1; have zd2 := fun o o' => (zd o o').2.2
            have yp : PBox ((wr.alloc (.cells (boxPt (p1, p2, p3)) 25)).alloc (.cells (boxPt (q1', q2, q3)) 25)) wr.heap.size (p1, p2, p3) := (PBox.new wr (p1, p2, p3)).alloc _
            have yq : PBox ((wr.alloc (.cells (boxPt (p1, p2, p3)) 25)).alloc (.cells (boxPt (q1', q2, q3)) 25)) (wr.heap.size + 1) (q1', q2, q3) := heap_alloc_new2 wr _ _
            have xq : PBox ((wr.alloc (.cells (boxPt (q1', q2, q3)) 25)).alloc (.cells (boxPt (p1, p2, p3)) 25)) wr.heap.size (q1', q2, q3) := (PBox.new wr (q1', q2, q3)).alloc _
            have xp : PBox ((wr.alloc (.cells (boxPt (q1', q2, q3)) 25)).alloc (.cells (boxPt (p1, p2, p3)) 25)) (wr.heap.size + 1) (p1, p2, p3) := heap_alloc_new2 wr _ _
            have yb := Z (.cells (boxPt (p1, p2, p3)) 25) (.cells (boxPt (q1', q2, q3)) 25)
            have xb := Z (.cells (boxPt (q1', q2, q3)) 25) (.cells (boxPt (p1, p2, p3)) 25)
            have YP := Lib.hid yp; have YQ := Lib.hid yq; have XP := Lib.hid xp; have XQ := Lib.hid xq; have YB := Lib.hid yb; have XB := Lib.hid xb
            clear yp yq xp xq yb xb
            clear za zb zc zd Z
            go_wp2_with fail
            go_region_held3 (fun W' => W'.cell? ⟨b1, o1, none⟩ = some (.int .i64 p1) ∧ W'.cell? ⟨b1, o1 + 1, none⟩ = some (.int .u64 p2) ∧ W'.cell? ⟨b1, o1 + 2, none⟩ = some (.int .u64 p3) ∧ W'.cell? ⟨b2, o2, none⟩ = some (.int .i64 q1') ∧ W'.cell? ⟨b2, o2 + 1, none⟩ = some (.int .u64 q2) ∧ W'.cell? ⟨b2, o2 + 2, none⟩ = some (.int .u64 q3)) (first | exact ⟨c0, c3, c4, d0, d1, d2⟩ | exact ⟨za0 _, za1 _, za2 _, zb0 _, zb1 _, zb2 _⟩ | exact ⟨zc0 _ _, zc1 _ _, zc2 _ _, zd0 _ _, zd1 _ _, zd2 _ _⟩) (fail)
            all_goals
              first
                | (refine withW (fun W6 => PBox W6 wr.heap.size (p1, p2, p3) ∧ PBox W6 (wr.heap.size + 1) (q1', q2, q3) ∧ RowKit.Below wr.heap.size wr W6) ⟨YP.out, YQ.out, by first | exact YB.out | exact below_drewN YB.out 1⟩ ?_
                   rintro w6 ⟨hp6, hq6, hb6⟩
                   obtain ⟨g8, hg8⟩ : ∃ g, g = wr.heap.size + 1 := ⟨_, rfl⟩
                   rw [← hg8] at hq6 ⊢
                   obtain ⟨g7, hg7⟩ : ∃ g, g = wr.heap.size := ⟨_, rfl⟩
                   rw [← hg7] at hp6 ⊢)
                | (refine withW (fun W6 => PBox W6 wr.heap.size (q1', q2, q3) ∧ PBox W6 (wr.heap.size + 1) (p1, p2, p3) ∧ RowKit.Below wr.heap.size wr W6) ⟨XQ.out, XP.out, by first | exact XB.out | exact below_drewN XB.out 1⟩ ?_
                   rintro w6 ⟨hq6, hp6, hb6⟩
                   obtain ⟨g7, hg7⟩ : ∃ g, g = wr.heap.size + 1 := ⟨_, rfl⟩
                   rw [← hg7] at hp6 ⊢
                   obtain ⟨g8, hg8⟩ : ∃ g, g = wr.heap.size := ⟨_, rfl⟩
                   rw [← hg8] at hq6 ⊢)
            all_goals
              clear hg7 hg8 za0 za1 za2 zb0 zb1 zb2 zc0 zc1 zc2 zd0 zd1 zd2 c0 c3 c4 d0 d1 d2
              have HO6 := Lib.hid (own_below_pt HOZ.out hb6)
              have HB6 := Lib.hid (HBZ.out.trans (hb6.mono hsz))
              have hs6 : w.heap.size ≤ w6.heap.size := HB6.out.size
              obtain ⟨c0, c3, c4⟩ := hp6.cells
              obtain ⟨d0, d1, d2⟩ := hq6.cells
              simp only at c0 c3 c4 d0 d1 d2
              have HRX1 := Lib.hid (HT1.out w (p1, p2, p3) x rfl HRX.out); have HRY1 := Lib.hid (HT2.out w (q1', q2, q3) y rfl HRY.out)
              have hE := HE.out
              try simp only at hE
              clear hp6 hq6 hb6 YP YQ XP XQ YB XB HT1 HT2 HPX HPY HOZ HBZ
            all_goals by_cases h1 : p1 < q1'
            any_goals
              rw [if_pos h1] at hE
              have hE2 : R = ((acc ++ [(p1, p2, p3)]) ++ mergeL x ((q1', q2, q3) :: y), 0) := by rw [hE, List.append_assoc]; rfl
              have HE2 := Lib.hid hE2; clear hE hE2
              go_wp2_with fail
              go_region_law (first
                | (refine step_append_pt rfl (.tmp 53) (.tmp 55) rfl w.heap.size (.slice A6 acc.length c6) acc rfl (own_mvP (S := fun _ => False) HO6.out (by repeat (first | exact Mv.refl _ w6 | refine Mv.alloc ?_ _ | refine Mv.drew ?_)) (fun _ _ f => f)) (some ⟨w6.heap.size, 0, none⟩) 1 1 [(p1, p2, p3)] rfl rfl (PBox.rd (by first | exact heap_alloc_new _ _ | exact heap_alloc_new w6.drew _ | exact heap_alloc_new w6 _)) (by simp; omega) (Nat.le_trans hs6 (Mv.size (S := fun _ => False) (by repeat (first | exact Mv.refl _ w6 | refine Mv.alloc ?_ _ | refine Mv.drew ?_)))) ?_
                   intro v4 w4 own4 grow4
                   have hb4 : RowKit.Below w.heap.size w w4 := Below.grown (w := _) (HB6.out.trans ((show Mv (fun _ => False) w6 _ from (by repeat (first | exact Mv.refl _ w6 | refine Mv.alloc ?_ _ | refine Mv.drew ?_))).below.mono hs6)) grow4 (Nat.le_trans hs6 (Mv.size (S := fun _ => False) (by repeat (first | exact Mv.refl _ w6 | refine Mv.alloc ?_ _ | refine Mv.drew ?_)))) (fun k hk => ((HO6.out).lt k hk).1)
                   have HB4 := Lib.hid hb4; have HO4 := Lib.hid own4
                   clear hb4 own4 grow4)
                | fail)
              all_goals
                simp only [List.getElem_toArray, List.getElem_cons_zero, List.getElem_cons_succ]
                simp only [Act.put, List.setIfInBounds_toArray, List.set_cons_zero, List.set_cons_succ]
                go_roundw
                case rel =>
                  repeat (apply Exists.intro)
                  refine And.intro ?_ rfl
                  exact ⟨x, (q1', q2, q3) :: y, acc ++ [(p1, p2, p3)], A2, some ⟨b2, o2, none⟩, c1 - 1, c2, rfl, rfl, by omega, by simp; omega, by simp; omega, (show Aside _ from HRX1.out), (show Aside _ from HRY.out), (show Aside _ from HO4.out), (show Aside _ from HB4.out), (show Aside _ from HE2.out)⟩
                case measure => simp [lenV]
            all_goals by_cases h2 : q1' < p1
            any_goals
              rw [if_neg h1, if_pos h2] at hE
              have hE2 : R = ((acc ++ [(q1', q2, q3)]) ++ mergeL ((p1, p2, p3) :: x) y, 0) := by rw [hE, List.append_assoc]; rfl
              have HE2 := Lib.hid hE2; clear hE hE2
              go_wp2_with fail
              go_region_law (first
                | (refine step_append_pt rfl (.tmp 65) (.tmp 67) rfl w.heap.size (.slice A6 acc.length c6) acc rfl (own_mvP (S := fun _ => False) HO6.out (by repeat (first | exact Mv.refl _ w6 | refine Mv.alloc ?_ _ | refine Mv.drew ?_)) (fun _ _ f => f)) (some ⟨w6.heap.size, 0, none⟩) 1 1 [(q1', q2, q3)] rfl rfl (PBox.rd (by first | exact heap_alloc_new _ _ | exact heap_alloc_new w6.drew _ | exact heap_alloc_new w6 _)) (by simp; omega) (Nat.le_trans hs6 (Mv.size (S := fun _ => False) (by repeat (first | exact Mv.refl _ w6 | refine Mv.alloc ?_ _ | refine Mv.drew ?_)))) ?_
                   intro v4 w4 own4 grow4
                   have hb4 : RowKit.Below w.heap.size w w4 := Below.grown (w := _) (HB6.out.trans ((show Mv (fun _ => False) w6 _ from (by repeat (first | exact Mv.refl _ w6 | refine Mv.alloc ?_ _ | refine Mv.drew ?_))).below.mono hs6)) grow4 (Nat.le_trans hs6 (Mv.size (S := fun _ => False) (by repeat (first | exact Mv.refl _ w6 | refine Mv.alloc ?_ _ | refine Mv.drew ?_)))) (fun k hk => ((HO6.out).lt k hk).1)
                   have HB4 := Lib.hid hb4; have HO4 := Lib.hid own4
                   clear hb4 own4 grow4)
                | fail)
              all_goals
                simp only [List.getElem_toArray, List.getElem_cons_zero, List.getElem_cons_succ]
                simp only [Act.put, List.setIfInBounds_toArray, List.set_cons_zero, List.set_cons_succ]
                go_roundw
                case rel =>
                  repeat (apply Exists.intro)
                  refine And.intro ?_ rfl
                  exact ⟨(p1, p2, p3) :: x, y, acc ++ [(q1', q2, q3)], some ⟨b1, o1, none⟩, B2, c1, c2 - 1, rfl, rfl, by simp; omega, by omega, by simp; omega, (show Aside _ from HRX.out), (show Aside _ from HRY1.out), (show Aside _ from HO4.out), (show Aside _ from HB4.out), (show Aside _ from HE2.out)⟩
                case measure => simp [lenV]
            all_goals
              rw [if_neg h1, if_neg h2] at hE
              have HCO := Lib.hid (fun W' => count_any (p1, p2, p3) (q1', q2, q3) W')
              generalize cntP (p1, p2, p3) (q1', q2, q3) = kp at HCO hE
              obtain ⟨r1, r2, r3⟩ := kp
              unfold aggPt at HCO
              simp only at HCO
              have hE2 : R = ((acc ++ [(r1, r2, r3)]) ++ mergeL x y, 0) := by rw [hE, List.append_assoc]; rfl
              have HE2 := Lib.hid hE2; clear hE hE2
              go_wp2_with fail
              go_region_law (first
                | (go_simp; go_at_call 29; (with_reducible refine (HCO.out _).mono ?_); rintro e w7 ⟨rfl, hb7⟩
                   have hbc : RowKit.Below w6.heap.size w6 w7 := by first | exact hb7 | exact ⟨hb7.os, hb7.tape, hb7.output, hb7.size, hb7.block⟩
                   have HO7 := Lib.hid (own_below_pt HO6.out hbc)
                   have HB7 := Lib.hid (HB6.out.trans (hbc.mono hs6))
                   have hs7 : w.heap.size ≤ w7.heap.size := HB7.out.size
                   clear hb7 hbc)
                | (refine step_append_pt rfl (.tmp 37) (.tmp 41) rfl w.heap.size (.slice A6 acc.length c6) acc rfl (own_mvP (S := fun _ => False) HO7.out (by repeat (first | exact Mv.refl _ w7 | refine Mv.alloc ?_ _ | refine Mv.drew ?_)) (fun _ _ f => f)) (some ⟨w7.heap.size, 0, none⟩) 1 1 [(r1, r2, r3)] rfl rfl (PBox.rd (by first | exact heap_alloc_new _ _ | exact heap_alloc_new w7.drew _ | exact heap_alloc_new w7 _)) (by simp; omega) (Nat.le_trans hs7 (Mv.size (S := fun _ => False) (by repeat (first | exact Mv.refl _ w7 | refine Mv.alloc ?_ _ | refine Mv.drew ?_)))) ?_
                   intro v4 w4 own4 grow4
                   have hb4 : RowKit.Below w.heap.size w w4 := Below.grown (w := _) (HB7.out.trans ((show Mv (fun _ => False) w7 _ from (by repeat (first | exact Mv.refl _ w7 | refine Mv.alloc ?_ _ | refine Mv.drew ?_))).below.mono hs7)) grow4 (Nat.le_trans hs7 (Mv.size (S := fun _ => False) (by repeat (first | exact Mv.refl _ w7 | refine Mv.alloc ?_ _ | refine Mv.drew ?_)))) (fun k hk => ((HO7.out).lt k hk).1)
                   have HB4 := Lib.hid hb4; have HO4 := Lib.hid own4
                   clear hb4 own4 grow4)
                | fail)
              all_goals
                simp only [List.getElem_toArray, List.getElem_cons_zero, List.getElem_cons_succ]
                simp only [Act.put, List.setIfInBounds_toArray, List.set_cons_zero, List.set_cons_succ]
                go_roundw
                case rel =>
                  repeat (apply Exists.intro)
                  refine And.intro ?_ rfl
                  exact ⟨x, y, acc ++ [(r1, r2, r3)], A2, B2, c1 - 1, c2 - 1, rfl, rfl, by omega, by omega, by simp; omega, (show Aside _ from HRX1.out), (show Aside _ from HRY1.out), (show Aside _ from HO4.out), (show Aside _ from HB4.out), (show Aside _ from HE2.out)⟩
                case measure => simp [lenV]; omega
end
end Go.Proofs.Ytfohmepjedehfab
