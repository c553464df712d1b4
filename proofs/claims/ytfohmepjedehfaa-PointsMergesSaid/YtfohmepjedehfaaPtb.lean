/-
  Two lists merged: the plain answers' own.
-/
import Derived.Test.YtfohmepjedehfaaPta
namespace Go.Proofs.Ytfohmepjedehfaa
set_option linter.unusedVariables false
set_option linter.unusedSimpArgs false
open Go.RowKit
section
set_option maxHeartbeats 3200000
set_option maxRecDepth 100000
theorem rmerge_any (A B : Option Addr) (ca cb : Nat) (a b : List Pt) (w : World) (ha : Rd w A (pcells a)) (hb : Rd w B (pcells b)) (hca : a.length ≤ ca) (hcb : b.length ≤ cb) (hla : a.length ≤ 1500) (hlb : b.length ≤ 1500) :
    Calls Try.prog 22 #[.slice A a.length ca, .slice B b.length cb] w (MergeOut w (mergeP a b)) := by
  obtain ⟨R, hR⟩ : ∃ R, R = mergeP a b := ⟨_, rfl⟩
  rw [← hR]
  have HR := Lib.hid hR; have HA := Lib.hid ha; have HB := Lib.hid hb
  clear hR ha hb
  unfold mergeP at HR
  have HRA := Lib.hid (fun (W' : World) (hb : RowKit.Below w.heap.size w W') => rright_any A ca a W' (HA.out.below hb) (by omega))
  have HRB := Lib.hid (fun (W' : World) (hb : RowKit.Below w.heap.size w W') => rright_any B cb b W' (HB.out.below hb) (by omega))
  cases hra : rightB a with
  | false =>
    rw [if_pos (.inl hra)] at HR
    rw [hra] at HRA
    clear hra
    go_enter Try.func22, Try.ntmps22
    go_wp2_with fail
    refine (HRA.out w (RowKit.Below.refl _ _)).mono ?_
    rintro e w1 ⟨rfl, hb1⟩
    go_wp2
    go_ret2
    exact ⟨none, 0, by rw [HR.out]; rfl, by rw [HR.out]; exact Nat.le_refl _, by rw [HR.out]; exact World.ownsRow_nil _ _ _ _, hb1⟩
  | true =>
    rw [hra] at HRA
    cases hrb : rightB b with
    | false =>
      rw [if_pos (.inr hrb)] at HR
      rw [hrb] at HRB
      clear hra hrb
      go_enter Try.func22, Try.ntmps22
      go_wp2_with fail
      refine (HRA.out w (RowKit.Below.refl _ _)).mono ?_
      rintro e w1 ⟨rfl, hb1⟩
      go_wp2_with fail
      refine (HRB.out w1 hb1).mono ?_
      rintro e w2 ⟨rfl, hb2⟩
      go_wp2
      go_ret2
      exact ⟨none, 0, by rw [HR.out]; rfl, by rw [HR.out]; exact Nat.le_refl _, by rw [HR.out]; exact World.ownsRow_nil _ _ _ _, hb1.trans (hb2.mono hb1.size)⟩
    | true =>
      rw [if_neg (by rw [hra, hrb]; simp)] at HR
      rw [hrb] at HRB
      clear hra hrb
      go_enter Try.func22, Try.ntmps22
      go_wp2_with fail
      refine (HRA.out w (RowKit.Below.refl _ _)).mono ?_
      rintro e w1 ⟨rfl, hb1⟩
      go_wp2_with fail
      refine (HRB.out w1 hb1).mono ?_
      rintro e w2 ⟨rfl, hb2⟩
      have hb3 := hb1.trans (hb2.mono hb1.size)
      have HO3 := Lib.hid ((own_empty_pt w2).lower hb3.size)
      have HB3 := Lib.hid (hb3.alloc hb3.size (.cells #[] 25))
      clear hb1 hb2 hb3
      go_wp2_with fail
      go_loopw [0, 1, 6] (fun s0 s1 s6 wr => ∃ (x y acc : List Pt) (A1 B1 : Option Addr) (c1 c2 : Nat), s0 = .slice A1 x.length c1 ∧ s1 = .slice B1 y.length c2 ∧ x.length ≤ c1 ∧ y.length ≤ c2 ∧ acc.length + x.length + y.length ≤ 3000 ∧ Aside (Rd w A1 (pcells x)) ∧ Aside (Rd w B1 (pcells y)) ∧ Aside (wr.ownsRow w.heap.size 25 3 s6 acc.length (pcells acc)) ∧ Aside (RowKit.Below w.heap.size w wr) ∧ Aside (R = (acc ++ mergeL x y, 0))) (fun s0 s1 _ _ => lenV s0 + lenV s1)
      case atStart => exact ⟨a, b, [], A, B, ca, cb, rfl, rfl, hca, hcb, by simp; omega, HA.out, HB.out, HO3.out, HB3.out, by rw [HR.out]; rfl⟩
      case round =>
        obtain ⟨x, y, acc, A1, B1, c1, c2, rfl, rfl, hc1, hc2, hlen, RA, RB, OW, BW, E⟩ := hrel
        obtain ⟨A6, c6, hv6, -, hac, -⟩ := own_rd_pt OW.out
        subst hv6
        have hsz := BW.out.size
        have HOZ := Lib.hid OW.out; have HBZ := Lib.hid BW.out; have HRX := Lib.hid RA.out; have HRY := Lib.hid RB.out; have HE := Lib.hid E.out
        clear OW BW RA RB E
        rcases x with _ | ⟨p, x⟩
        · rcases y with _ | ⟨q, y⟩
          · -- nothing is left
            have hE := HE.out
            rw [show mergeL [] [] = ([] : List Pt) from by simp [mergeL], List.append_nil] at hE
            have HE2 := Lib.hid hE; clear hE
            have hl5 : ¬ (65536 : Int) < (acc.length : Int) := by simp at hlen; omega
            simp only [List.length_nil]
            go_wp2
            go_ret2
            exact ⟨A6, c6, by rw [HE2.out]; rfl, by rw [HE2.out]; exact hac, by rw [HE2.out]; exact HOZ.out, HBZ.out⟩
          · -- the second has more
            obtain ⟨b2, o2, rfl, d0, d1, d2⟩ := pt_at' (HRY.out.below HBZ.out) (k := 0) (q := q) rfl
            simp only [Nat.zero_mul, Nat.add_zero] at d0 d1 d2
            obtain ⟨B2, t2, tv2⟩ := slice_one (some ⟨b2, o2, none⟩) y.length c2 hc2
            have HRY1 := Lib.hid (tv2 w q y rfl HRY.out)
            have hE : R = ((acc ++ [q]) ++ mergeL [] y, 0) := by rw [HE.out, List.append_assoc]; simp [mergeL]
            have HE2 := Lib.hid hE; clear hE tv2
            simp only [List.length_cons, List.length_nil] at hlen hc1 hc2 ⊢
            have ny : (0 : Int) < (y.length : Int) + 1 := by omega
            have nyb : ((y.length : Int) + 1 == (0 : Int)) = false := by simp; omega
            obtain ⟨q1, q2, q3⟩ := q
            simp only at d0 d1 d2
            go_wp2_with fail
            go_quiet (fail)
            go_wp2_with fail
            go_quiet (fail)
            go_wp2_with (first
              | (at_builtin; (refine wpList_append_pt rfl (.tmp 81) (.tmp 85) rfl rfl w.heap.size _ acc rfl (own_mvP (S := fun _ => False) HOZ.out (by repeat (first | exact Mv.refl _ wr | refine Mv.drewN ?_ _ | refine Mv.alloc ?_ _ | refine Mv.drew ?_)) (fun _ _ f => f)) _ 1 [(q1, q2, q3)] rfl (rd_row _ [.int .i64 q1, .int .u64 q2, .int .u64 q3] 25) (by simp; omega) (by simp; omega) ?_; intro v4 w4 own4 grow4))
              | fail)
            have hb4 : RowKit.Below w.heap.size w w4 := Below.grown (w := _) (HBZ.out.trans ((show Mv (fun _ => False) wr _ from (by repeat (first | exact Mv.refl _ wr | refine Mv.drewN ?_ _ | refine Mv.alloc ?_ _ | refine Mv.drew ?_))).below.mono hsz)) grow4 (by simp; omega) (fun k h => (HOZ.out.lt k h).1)
            have HB4 := Lib.hid hb4; have HO4 := Lib.hid own4; clear hb4 own4 grow4
            go_roundw
            case rel =>
              first
                | exact ⟨[], y, acc ++ [(q1, q2, q3)], A1, B2, c1, c2 - 1, rfl, rfl, (by first | omega | (simp; omega) | simp), (by first | omega | (simp; omega) | simp), (by first | omega | (simp; omega) | simp), (show Aside _ from HRX.out), (show Aside _ from HRY1.out), (show Aside _ from HO4.out), (show Aside _ from (by first | exact HB4.out | exact below_drewN HB4.out _)), (show Aside _ from HE2.out)⟩
                | (repeat (apply Exists.intro)
                   refine And.intro ?_ rfl
                   exact ⟨[], y, acc ++ [(q1, q2, q3)], A1, B2, c1, c2 - 1, rfl, rfl, (by first | omega | (simp; omega) | simp), (by first | omega | (simp; omega) | simp), (by first | omega | (simp; omega) | simp), (show Aside _ from HRX.out), (show Aside _ from HRY1.out), (show Aside _ from HO4.out), (show Aside _ from (by first | exact HB4.out | exact below_drewN HB4.out _)), (show Aside _ from HE2.out)⟩)
            case measure => simp [lenV]
        · rcases y with _ | ⟨q, y⟩
          · -- the first has more
            obtain ⟨b1, o1, rfl, c0, c3, c4⟩ := pt_at' (HRX.out.below HBZ.out) (k := 0) (q := p) rfl
            simp only [Nat.zero_mul, Nat.add_zero] at c0 c3 c4
            obtain ⟨A2, t1, tv1⟩ := slice_one (some ⟨b1, o1, none⟩) x.length c1 hc1
            have HRX1 := Lib.hid (tv1 w p x rfl HRX.out)
            have hE : R = ((acc ++ [p]) ++ mergeL x [], 0) := by rw [HE.out, List.append_assoc, merge_nil, merge_nil]; rfl
            have HE2 := Lib.hid hE; clear hE tv1
            simp only [List.length_cons, List.length_nil] at hlen hc1 hc2 ⊢
            have nx : (0 : Int) < (x.length : Int) + 1 := by omega
            obtain ⟨p1, p2, p3⟩ := p
            simp only at c0 c3 c4
            go_wp2_with fail
            go_quiet (fail)
            go_wp2_with (first
              | (at_builtin; (refine wpList_append_pt rfl (.tmp 58) (.tmp 62) rfl rfl w.heap.size _ acc rfl (own_mvP (S := fun _ => False) HOZ.out (by repeat (first | exact Mv.refl _ wr | refine Mv.drewN ?_ _ | refine Mv.alloc ?_ _ | refine Mv.drew ?_)) (fun _ _ f => f)) _ 1 [(p1, p2, p3)] rfl (rd_row _ [.int .i64 p1, .int .u64 p2, .int .u64 p3] 25) (by simp; omega) (by simp; omega) ?_; intro v4 w4 own4 grow4))
              | fail)
            have hb4 : RowKit.Below w.heap.size w w4 := Below.grown (w := _) (HBZ.out.trans ((show Mv (fun _ => False) wr _ from (by repeat (first | exact Mv.refl _ wr | refine Mv.drewN ?_ _ | refine Mv.alloc ?_ _ | refine Mv.drew ?_))).below.mono hsz)) grow4 (by simp; omega) (fun k h => (HOZ.out.lt k h).1)
            have HB4 := Lib.hid hb4; have HO4 := Lib.hid own4; clear hb4 own4 grow4
            go_roundw
            case rel =>
              first
                | exact ⟨x, [], acc ++ [(p1, p2, p3)], A2, B1, c1 - 1, c2, rfl, rfl, (by first | omega | (simp; omega) | simp), (by first | omega | (simp; omega) | simp), (by first | omega | (simp; omega) | simp), (show Aside _ from HRX1.out), (show Aside _ from HRY.out), (show Aside _ from HO4.out), (show Aside _ from (by first | exact HB4.out | exact below_drewN HB4.out _)), (show Aside _ from HE2.out)⟩
                | (repeat (apply Exists.intro)
                   refine And.intro ?_ rfl
                   exact ⟨x, [], acc ++ [(p1, p2, p3)], A2, B1, c1 - 1, c2, rfl, rfl, (by first | omega | (simp; omega) | simp), (by first | omega | (simp; omega) | simp), (by first | omega | (simp; omega) | simp), (show Aside _ from HRX1.out), (show Aside _ from HRY.out), (show Aside _ from HO4.out), (show Aside _ from (by first | exact HB4.out | exact below_drewN HB4.out _)), (show Aside _ from HE2.out)⟩)
            case measure => simp [lenV]
          · obtain ⟨b1, o1, rfl, c0, c3, c4⟩ := pt_at' (HRX.out.below HBZ.out) (k := 0) (q := p) rfl
            obtain ⟨b2, o2, rfl, d0, d1, d2⟩ := pt_at' (HRY.out.below HBZ.out) (k := 0) (q := q) rfl
            simp only [Nat.zero_mul, Nat.add_zero] at c0 c3 c4 d0 d1 d2
            obtain ⟨A2, t1, tv1⟩ := slice_one (some ⟨b1, o1, none⟩) x.length c1 hc1
            obtain ⟨B2, t2, tv2⟩ := slice_one (some ⟨b2, o2, none⟩) y.length c2 hc2
            have HRX1 := Lib.hid (tv1 w p x rfl HRX.out); have HRY1 := Lib.hid (tv2 w q y rfl HRY.out)
            have hE := HE.out
            rw [mergeL] at hE
            clear tv1 tv2
            simp only [List.length_cons] at hlen hc1 hc2 ⊢
            have nx : (0 : Int) < (x.length : Int) + 1 := by omega
            have ny : (0 : Int) < (y.length : Int) + 1 := by omega
            have nxb : ((x.length : Int) + 1 == (0 : Int)) = false := by simp; omega
            have nyb : ((y.length : Int) + 1 == (0 : Int)) = false := by simp; omega
            by_cases h1 : p.1 < q.1
            · rw [if_pos h1] at hE
              have hE2 : R = ((acc ++ [p]) ++ mergeL x (q :: y), 0) := by rw [hE, List.append_assoc]; rfl
              have HE2 := Lib.hid hE2; clear hE hE2
              obtain ⟨p1, p2, p3⟩ := p
              obtain ⟨q1, q2, q3⟩ := q
              simp only at c0 c3 c4 d0 d1 d2 h1
              go_wp2_with fail
              go_quiet (fail)
              go_wp2_with (first
                | (at_builtin; (refine wpList_append_pt rfl (.tmp 58) (.tmp 62) rfl rfl w.heap.size _ acc rfl (own_mvP (S := fun _ => False) HOZ.out (by repeat (first | exact Mv.refl _ wr | refine Mv.drewN ?_ _ | refine Mv.alloc ?_ _ | refine Mv.drew ?_)) (fun _ _ f => f)) _ 1 [(p1, p2, p3)] rfl (rd_row _ [.int .i64 p1, .int .u64 p2, .int .u64 p3] 25) (by simp; omega) (by simp; omega) ?_; intro v4 w4 own4 grow4))
                | fail)
              have hb4 : RowKit.Below w.heap.size w w4 := Below.grown (w := _) (HBZ.out.trans ((show Mv (fun _ => False) wr _ from (by repeat (first | exact Mv.refl _ wr | refine Mv.drewN ?_ _ | refine Mv.alloc ?_ _ | refine Mv.drew ?_))).below.mono hsz)) grow4 (by simp; omega) (fun k h => (HOZ.out.lt k h).1)
              have HB4 := Lib.hid hb4; have HO4 := Lib.hid own4; clear hb4 own4 grow4
              go_roundw
              case rel =>
                first
                  | exact ⟨x, (q1, q2, q3) :: y, acc ++ [(p1, p2, p3)], A2, some ⟨b2, o2, none⟩, c1 - 1, c2, rfl, rfl, (by first | omega | (simp; omega) | simp), (by first | omega | (simp; omega) | simp), (by first | omega | (simp; omega) | simp), (show Aside _ from HRX1.out), (show Aside _ from HRY.out), (show Aside _ from HO4.out), (show Aside _ from (by first | exact HB4.out | exact below_drewN HB4.out _)), (show Aside _ from HE2.out)⟩
                  | (repeat (apply Exists.intro)
                     refine And.intro ?_ rfl
                     exact ⟨x, (q1, q2, q3) :: y, acc ++ [(p1, p2, p3)], A2, some ⟨b2, o2, none⟩, c1 - 1, c2, rfl, rfl, (by first | omega | (simp; omega) | simp), (by first | omega | (simp; omega) | simp), (by first | omega | (simp; omega) | simp), (show Aside _ from HRX1.out), (show Aside _ from HRY.out), (show Aside _ from HO4.out), (show Aside _ from (by first | exact HB4.out | exact below_drewN HB4.out _)), (show Aside _ from HE2.out)⟩)
              case measure => simp [lenV]
            · rw [if_neg h1] at hE
              by_cases h2 : q.1 < p.1
              · rw [if_pos h2] at hE
                have hE2 : R = ((acc ++ [q]) ++ mergeL (p :: x) y, 0) := by rw [hE, List.append_assoc]; rfl
                have HE2 := Lib.hid hE2; clear hE hE2
                obtain ⟨p1, p2, p3⟩ := p
                obtain ⟨q1, q2, q3⟩ := q
                simp only at c0 c3 c4 d0 d1 d2 h1 h2
                go_wp2_with fail
                go_quiet (fail)
                go_wp2_with fail
                go_quiet (fail)
                go_wp2_with (first
                  | (at_builtin; (refine wpList_append_pt rfl (.tmp 81) (.tmp 85) rfl rfl w.heap.size _ acc rfl (own_mvP (S := fun _ => False) HOZ.out (by repeat (first | exact Mv.refl _ wr | refine Mv.drewN ?_ _ | refine Mv.alloc ?_ _ | refine Mv.drew ?_)) (fun _ _ f => f)) _ 1 [(q1, q2, q3)] rfl (rd_row _ [.int .i64 q1, .int .u64 q2, .int .u64 q3] 25) (by simp; omega) (by simp; omega) ?_; intro v4 w4 own4 grow4))
                  | fail)
                have hb4 : RowKit.Below w.heap.size w w4 := Below.grown (w := _) (HBZ.out.trans ((show Mv (fun _ => False) wr _ from (by repeat (first | exact Mv.refl _ wr | refine Mv.drewN ?_ _ | refine Mv.alloc ?_ _ | refine Mv.drew ?_))).below.mono hsz)) grow4 (by simp; omega) (fun k h => (HOZ.out.lt k h).1)
                have HB4 := Lib.hid hb4; have HO4 := Lib.hid own4; clear hb4 own4 grow4
                go_roundw
                case rel =>
                  first
                    | exact ⟨(p1, p2, p3) :: x, y, acc ++ [(q1, q2, q3)], some ⟨b1, o1, none⟩, B2, c1, c2 - 1, rfl, rfl, (by first | omega | (simp; omega) | simp), (by first | omega | (simp; omega) | simp), (by first | omega | (simp; omega) | simp), (show Aside _ from HRX.out), (show Aside _ from HRY1.out), (show Aside _ from HO4.out), (show Aside _ from (by first | exact HB4.out | exact below_drewN HB4.out _)), (show Aside _ from HE2.out)⟩
                    | (repeat (apply Exists.intro)
                       refine And.intro ?_ rfl
                       exact ⟨(p1, p2, p3) :: x, y, acc ++ [(q1, q2, q3)], some ⟨b1, o1, none⟩, B2, c1, c2 - 1, rfl, rfl, (by first | omega | (simp; omega) | simp), (by first | omega | (simp; omega) | simp), (by first | omega | (simp; omega) | simp), (show Aside _ from HRX.out), (show Aside _ from HRY1.out), (show Aside _ from HO4.out), (show Aside _ from (by first | exact HB4.out | exact below_drewN HB4.out _)), (show Aside _ from HE2.out)⟩)
                case measure => simp [lenV]
              · rw [if_neg h2] at hE
                have hpq : p.1 = q.1 := by omega
                have HCO := Lib.hid (fun W' => least_any p q W')
                rw [cnt_least hpq] at HCO
                have hE2 : R = ((acc ++ [cntP p q]) ++ mergeL x y, 0) := by rw [hE, List.append_assoc]; rfl
                have HE2 := Lib.hid hE2
                generalize cntP p q = kp at HCO HE2
                clear hE hE2 hpq
                obtain ⟨p1, p2, p3⟩ := p
                obtain ⟨q1, q2, q3⟩ := q
                obtain ⟨r1, r2, r3⟩ := kp
                unfold aggPt at HCO
                simp only at c0 c3 c4 d0 d1 d2 h1 h2 HCO
                go_wp2_with fail
                go_quiet (fail)
                go_wp2_with fail
                go_quiet (fail)
                go_wp2_with fail
                go_region_law (first
                  | (go_simp; go_at_call 31; (with_reducible refine (HCO.out _).mono ?_); rintro e w7 ⟨rfl, hb7⟩
                     have hbc : RowKit.Below wr.heap.size wr w7 := by first | exact hb7 | exact ⟨hb7.os, hb7.tape, hb7.output, hb7.size, hb7.block⟩
                     have HO7 := Lib.hid (own_below_pt HOZ.out hbc)
                     have HB7 := Lib.hid (HBZ.out.trans (hbc.mono hsz))
                     have hs7 : w.heap.size ≤ w7.heap.size := HB7.out.size
                     clear hb7 hbc)
                  | (refine step_append_pt rfl (.tmp 24) (.tmp 32) rfl w.heap.size (.slice A6 acc.length c6) acc rfl (own_mvP (S := fun _ => False) HO7.out (by repeat (first | exact Mv.refl _ w7 | refine Mv.alloc ?_ _ | refine Mv.drew ?_ | refine Mv.drewN ?_ _)) (fun _ _ f => f)) (some ⟨w7.heap.size, 0, none⟩) 1 1 [(r1, r2, r3)] rfl rfl (PBox.rd (by first | exact heap_alloc_new _ _ | exact heap_alloc_new w7.drew _ | exact heap_alloc_new w7 _)) (by simp; omega) (Nat.le_trans hs7 (Mv.size (S := fun _ => False) (by repeat (first | exact Mv.refl _ w7 | refine Mv.alloc ?_ _ | refine Mv.drew ?_ | refine Mv.drewN ?_ _)))) ?_
                     intro v4 w4 own4 grow4
                     have hb4 : RowKit.Below w.heap.size w w4 := Below.grown (w := _) (HB7.out.trans ((show Mv (fun _ => False) w7 _ from (by repeat (first | exact Mv.refl _ w7 | refine Mv.alloc ?_ _ | refine Mv.drew ?_ | refine Mv.drewN ?_ _))).below.mono hs7)) grow4 (Nat.le_trans hs7 (Mv.size (S := fun _ => False) (by repeat (first | exact Mv.refl _ w7 | refine Mv.alloc ?_ _ | refine Mv.drew ?_ | refine Mv.drewN ?_ _)))) (fun k hk => (HO7.out.lt k hk).1)
                     have HB4 := Lib.hid hb4; have HO4 := Lib.hid own4
                     clear hb4 own4 grow4)
                  | fail)
                all_goals
                  try simp only [List.getElem_toArray, List.getElem_cons_zero, List.getElem_cons_succ]
                  try simp only [Act.put, List.setIfInBounds_toArray, List.set_cons_zero, List.set_cons_succ]
                  go_wp2_with fail
                  go_quiet (fail)
                  go_wp2_with fail
                  go_roundw
                  case rel =>
                    first
                      | exact ⟨x, y, acc ++ [(r1, r2, r3)], A2, B2, c1 - 1, c2 - 1, rfl, rfl, by omega, by omega, by simp; omega, (show Aside _ from HRX1.out), (show Aside _ from HRY1.out), (show Aside _ from HO4.out), (show Aside _ from (by first | exact HB4.out | exact below_drewN HB4.out _)), (show Aside _ from HE2.out)⟩
                      | (repeat (apply Exists.intro)
                         refine And.intro ?_ rfl
                         exact ⟨x, y, acc ++ [(r1, r2, r3)], A2, B2, c1 - 1, c2 - 1, rfl, rfl, by omega, by omega, by simp; omega, (show Aside _ from HRX1.out), (show Aside _ from HRY1.out), (show Aside _ from HO4.out), (show Aside _ from (by first | exact HB4.out | exact below_drewN HB4.out _)), (show Aside _ from HE2.out)⟩)
                  case measure => simp [lenV]; omega
end
end Go.Proofs.Ytfohmepjedehfaa
