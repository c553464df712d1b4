/-
  PointsFolds (P9.5, P9.6): points put one by one, in any order, come to the same right list, which is the merge of lists of one each. No condition.
-/
import Derived.Test.YtfohmepjedehfaaPv
import Derived.Test.YtfohmepjedehfaaPt8
import Derived.Test.YtfohmepjedehfaaPta
namespace Go.Proofs.Ytfohmepjedehfaa
set_option linter.unusedVariables false
set_option linter.unusedSimpArgs false
open Go.ChangeShapes Go.WideShapes Go.ChangeAt Go.RowKit
/-- The place that is taken in the other order. -/
def kkN (n : Nat) (t : Int) (j : Nat) : Nat := if 0 < t then (j + (t % (n : Int)).toNat) % n else n - 1 - j
theorem kk_lt {n j : Nat} (t : Int) (h : j < n) : kkN n t j < n := by
  unfold kkN; split
  · exact Nat.mod_lt _ (by omega)
  · omega
theorem kk_onto {n : Nat} (t : Int) {m : Nat} (h : m < n) : ∃ j, j < n ∧ kkN n t j = m := by
  unfold kkN
  split
  · have hn : (0 : Int) < (n : Int) := by omega
    have h1 := Int.emod_nonneg t (by omega : (n : Int) ≠ 0)
    have h2 := Int.emod_lt_of_pos t hn
    obtain ⟨r, hr⟩ : ∃ r, r = (t % (n : Int)).toNat := ⟨_, rfl⟩
    have hrn : r < n := by omega
    rw [← hr]
    by_cases hm : r ≤ m
    · exact ⟨m - r, by omega, by rw [show m - r + r = m by omega, Nat.mod_eq_of_lt h]⟩
    · exact ⟨m + n - r, by omega, by rw [show m + n - r + r = m + n by omega, Nat.add_mod_right, Nat.mod_eq_of_lt h]⟩
  · exact ⟨n - 1 - m, by omega, by omega⟩
/-- What was put in the other order is the same in the end. -/
def Turned (l : List Pt) (t : Int) (k : Nat) (y : Pt) : Prop := ∃ j, j < k ∧ l[kkN l.length t j]? = some y
theorem turned_all (l : List Pt) (t : Int) (y : Pt) : Turned l t l.length y ↔ y ∈ l := by
  constructor
  · rintro ⟨j, _, h⟩; exact List.mem_of_getElem? h
  · intro h
    obtain ⟨m, hm, rfl⟩ := List.getElem_of_mem h
    obtain ⟨j, hj, e⟩ := kk_onto t hm
    exact ⟨j, hj, by rw [e, List.getElem?_eq_getElem hm]⟩
theorem turned_step {l : List Pt} {t : Int} {k : Nat} {q : Pt} (h : l[kkN l.length t k]? = some q) (y : Pt) : (Turned l t k y ∨ y = q) ↔ Turned l t (k + 1) y := by
  constructor
  · rintro (⟨j, hj, e⟩ | rfl)
    · exact ⟨j, by omega, e⟩
    · exact ⟨k, by omega, h⟩
  · rintro ⟨j, hj, e⟩
    by_cases e2 : j = k
    · subst e2; rw [h] at e; injection e with e; exact .inr e.symm
    · exact .inl ⟨j, by omega, e⟩
theorem take_step {l : List Pt} {k : Nat} {q : Pt} (h : l[k]? = some q) (y : Pt) : (y ∈ l.take k ∨ y = q) ↔ y ∈ l.take (k + 1) := by
  obtain ⟨hk, e⟩ := List.getElem?_eq_some_iff.1 h
  rw [List.take_succ_eq_append_getElem hk, List.mem_append, e]; simp
/-- A put of one point more. -/
theorem put_fold {S : Pt → Prop} {a : List Pt} (h : Folds S a) (hl : a.length ≤ 100) {p : Pt} (hp : p.2.2 ≠ 0) : putP a p = (mergeL a [p], (putP a p).2.1, 0) := by
  have hr := h.right (by omega)
  unfold putP
  rw [if_neg (by rw [hr]; simp [hp])]
  split
  · rfl
  · rw [if_neg (by omega)]
theorem own_rd_at {w : World} {B n c : Nat} {A : Option Addr} {l : List Pt} (h : w.ownsRow B 25 3 (.slice A n c) n (pcells l)) (hn : l.length = n) : Rd w A (pcells l) := by
  subst hn
  obtain ⟨A', c', e, h1, -, -⟩ := own_rd_pt h
  injection e with e1 e2 e3
  rw [e1]; exact h1
theorem one_right {p : Pt} (hp : p.2.2 ≠ 0) : rightB [p] = true := by
  rw [right_iff]; exact ⟨by simp, by simpa using hp, srt_single p⟩

section
set_option maxHeartbeats 3200000
set_option maxRecDepth 100000
theorem pointsFolds_in (A : Option Addr) (ca : Nat) (l : List Pt) (t : Int) (w : World) (hx : Rd w A (pcells l)) (hc : l.length ≤ ca) (hl : l.length ≤ 60) (hbt : -9223372036854775808 ≤ t ∧ t ≤ 9223372036854775807) :
    Calls Try.prog 8 #[.slice A l.length ca, .int .i64 t] w fun e w' => e = .returned (.bool true) ∧ RowKit.Below w.heap.size w w' := by
  have HX := Lib.hid hx; clear hx
  have HF := Lib.hid (fun w => few_any A ca l w)
  rw [decide_eq_true (by omega)] at HF
  have HLV := Lib.hid live_any
  have h60 : ¬ (60 : Int) < (l.length : Int) := by omega
  go_enter Try.func8, Try.ntmps8
  go_wp2_with fail
  refine (HLV.out _).mono ?_
  rintro e w1 ⟨rfl, hb1⟩
  have B1 := Lib.hid hb1; clear hb1
  go_wp2_with fail
  refine (HF.out _).mono ?_
  rintro e w2 ⟨rfl, rfl⟩
  go_wp2_with fail
  go_loopw [31] (fun s31 wr => ∃ k : Nat, s31 = .int .i64 k ∧ k ≤ l.length ∧ Aside (RowKit.Below w.heap.size w wr) ∧ Aside (∀ p ∈ l.take k, p.2.2 ≠ 0)) (fun s31 _ => l.length - (intOf s31).toNat)
  case atStart => exact ⟨0, rfl, by omega, B1.out, by simp; exact trivial⟩
  case round =>
    obtain ⟨k, rfl, hk, BW, E⟩ := hrel
    have k0 : (0 : Int) ≤ (k : Int) := by omega
    by_cases hlt : k < l.length
    · have k1 : (k : Int) < (l.length : Int) := by omega
      have hq : l[k]? = some l[k] := List.getElem?_eq_getElem hlt
      obtain ⟨q, hqe⟩ : ∃ q, q = l[k] := ⟨_, rfl⟩
      rw [← hqe] at hq
      obtain ⟨b, off, rfl, c0, c1, c2⟩ := pt_at' (HX.out.below BW.out) hq
      have HQ := Lib.hid hq
      have HBW := Lib.hid (BW.out.alloc BW.out.size (.cells (boxPt q) 25))
      have HE := Lib.hid E.out
      clear hq hqe BW E
      obtain ⟨q1, q2, q3⟩ := q
      unfold boxPt at HBW
      simp only at c0 c1 c2 HBW
      by_cases hz : q3 = 0
      · subst hz
        go_wp2
        go_ret
        exact ⟨rfl, HBW.out⟩
      · have hzb : (q3 == (0 : Int)) = false := by simp [hz]
        have hE2 : ∀ p ∈ l.take (k + 1), p.2.2 ≠ 0 := fun p hp => by
          rcases (take_step HQ.out p).2 hp with h | h
          · exact HE.out p h
          · rw [h]; exact hz
        have HE2 := Lib.hid hE2; clear hE2
        go_wp2_with fail
        go_roundw
        case rel => exact ⟨k + 1, by go_num, by omega, (show Aside _ from HBW.out), (show Aside _ from HE2.out)⟩
        case measure => simp [intOf]; omega
    · obtain rfl : k = l.length := by omega
      have hnum := E.out
      rw [List.take_length] at hnum
      have HN := Lib.hid hnum; have B2 := Lib.hid BW.out
      clear hnum BW E
      go_wp2_with fail
      go_loopw [41, 7, 8, 9] (fun s41 s7 s8 s9 wr => ∃ (k : Nat) (a b c : List Pt), s41 = .int .i64 k ∧ k ≤ l.length ∧ a.length ≤ k ∧ b.length ≤ k ∧ c.length ≤ k ∧ Aside (wr.ownsRow w.heap.size 25 3 s7 a.length (pcells a)) ∧ Aside (wr.ownsRow w.heap.size 25 3 s8 b.length (pcells b)) ∧ Aside (wr.ownsRow w.heap.size 25 3 s9 c.length (pcells c)) ∧
        Aside (Folds (fun y => y ∈ l.take k) a) ∧ Aside (Folds (Turned l t k) b) ∧ Aside (Folds (fun y => y ∈ l.take k) c) ∧ Aside (RowKit.Below w.heap.size w wr)) (fun s41 _ _ _ _ => l.length - (intOf s41).toNat)
      case atStart => exact ⟨0, [], [], [], rfl, by omega, by simp, by simp, by simp, World.ownsRow_nil _ _ _ _, World.ownsRow_nil _ _ _ _, World.ownsRow_nil _ _ _ _, (Folds.nil.congr (by simp)), (Folds.nil.congr (fun y => ⟨fun h => h.elim, fun ⟨j, hj, _⟩ => by omega⟩)), (Folds.nil.congr (by simp)), B2.out⟩
      case round =>
        obtain ⟨k, a, b, c, rfl, hk, la, lb, lc, OA, OB, OC, FA, FB, FC, BW⟩ := hrel
        obtain ⟨A7, c7, e7, -, ka, -⟩ := own_rd_pt OA.out
        obtain ⟨A8, c8, e8, -, kb, -⟩ := own_rd_pt OB.out
        obtain ⟨A9, c9, e9, -, kc, -⟩ := own_rd_pt OC.out
        subst e7; subst e8; subst e9
        have hsz := BW.out.size
        have k0 : (0 : Int) ≤ (k : Int) := by omega
        by_cases hlt : k < l.length
        · have k1 : (k : Int) < (l.length : Int) := by omega
          obtain ⟨p, hqp⟩ : ∃ p, l[k]? = some p := ⟨_, List.getElem?_eq_getElem hlt⟩
          obtain ⟨m, hm⟩ : ∃ m, m = kkN l.length t k := ⟨_, rfl⟩
          have hml : m < l.length := by rw [hm]; exact kk_lt t hlt
          obtain ⟨r, hqr⟩ : ∃ r, l[m]? = some r := ⟨_, List.getElem?_eq_getElem hml⟩
          have hp := HN.out p (List.mem_of_getElem? hqp)
          have hr := HN.out r (List.mem_of_getElem? hqr)
          have fa := (FA.out.put hp).congr (take_step hqp)
          have fb := (FB.out.put hr).congr (turned_step (by rw [← hm]; exact hqr))
          have fc := (FC.out.put hp).congr (take_step hqp)
          have ea := put_fold FA.out (by omega) hp
          have eb := put_fold FB.out (by omega) hr
          have ec : mergeP c [p] = (mergeL c [p], 0) := by
            unfold mergeP; rw [if_neg (by rw [FC.out.right (by omega), one_right hp]; simp)]
          have na := put_len a p; have nb := put_len b r; have nc := put_len c p
          have ra := fa.right (by omega)
          obtain ⟨b1, o1, rfl, c0, c1, c2⟩ := pt_at' (HX.out.below BW.out) hqp
          have HFA := Lib.hid fa; have HFB := Lib.hid fb; have HFC := Lib.hid fc
          obtain ⟨W1, hW1⟩ : ∃ W, W = wr.alloc (.cells (boxPt p) 25) := ⟨_, rfl⟩
          have hbw1 : RowKit.Below wr.heap.size wr W1 := by rw [hW1]; exact (RowKit.Below.refl _ wr).alloc (Nat.le_refl _) _
          have hbx1 : PBox W1 wr.heap.size p := by rw [hW1]; exact PBox.new wr p
          obtain ⟨d0, d1, d2⟩ := hbx1.cells
          have HQR := Lib.hid hqr
          have B1' := Lib.hid (BW.out.trans (hbw1.mono hsz))
          have HBX := Lib.hid hbx1
          have P7 := Lib.hid (own_below_pt OA.out hbw1); have P8 := Lib.hid (own_below_pt OB.out hbw1); have P9 := Lib.hid (own_below_pt OC.out hbw1)
          have HPA := Lib.hid (fun (W : World) (h : Rd W A7 (pcells a)) => put_any A7 c7 a p W h ka (by omega))
          have HPB := Lib.hid (fun (W : World) (h : Rd W A8 (pcells b)) => put_any A8 c8 b r W h kb (by omega))
          have HMC := Lib.hid (fun (W : World) (g : Nat) (h : Rd W A9 (pcells c)) (h' : Rd W (some ⟨g, 0, none⟩) (pcells [p])) => merge_any A9 (some ⟨g, 0, none⟩) c9 1 c [p] W h h' kc (by simp) (by omega) (by simp))
          rw [ea] at HPA; rw [eb] at HPB; rw [ec] at HMC
          generalize (putP a p).2.1 = x1 at HPA
          generalize (putP b r).2.1 = x2 at HPB
          unfold PutOut at HPA HPB
          unfold MergeOut at HMC
          simp only at HPA HPB HMC
          have HRA := Lib.hid ra
          generalize mergeL a [p] = a' at *
          generalize mergeL b [r] = b' at *
          generalize mergeL c [p] = c' at *
          clear fa fb fc ea eb ec FA FB FC OA OB OC BW hqp hqr hp hr hbx1 hbw1 ra
          obtain ⟨p1, p2, p3⟩ := p
          obtain ⟨r1, r2, r3⟩ := r
          unfold boxPt at hW1
          unfold aggPt at HPA HPB
          simp only at HPA HPB c0 c1 c2 d0 d1 d2 hW1
          have HW1 := Lib.hid hW1; have HM := Lib.hid hm; have HML := Lib.hid hml
          clear hW1 hm hml
          have hn0 : (l.length : Int) ≠ 0 := by omega
          have hemn := Int.emod_nonneg t hn0
          have heml := Int.emod_lt_of_pos t (show (0 : Int) < (l.length : Int) by omega)
          by_cases ht : 0 < t
          · have hm1 : (wrap64 ((k : Int) + t % (l.length : Int))).tmod (l.length : Int) = (m : Int) := by
              have hw : wrap64 ((k : Int) + t % (l.length : Int)) = (k : Int) + t % (l.length : Int) := by
                first
                  | exact IntWalk.i64_in _ (by omega)
                  | (unfold wrap64; omega)
              rw [hw, Int.tmod_eq_emod_of_nonneg (by omega), HM.out]
              unfold kkN
              rw [if_pos ht, Int.natCast_emod]
              congr 1
              omega
            have HM1 := Lib.hid hm1; clear hm1 hemn heml hn0
            go_wp2_with fail
            rw [← HW1.out]
            go_wp2_with fail
            simp only [HM1.out]
            refine (HPA.out W1 (own_rd_at P7.out rfl)).mono ?_
            rintro e w3 ⟨A10, c10, rfl, ho10, hb3⟩
            have O10 := Lib.hid (ho10.lower B1'.out.size)
            have B3 := Lib.hid (B1'.out.trans (hb3.mono B1'.out.size))
            have Q8 := Lib.hid (own_below_pt P8.out hb3); have Q9 := Lib.hid (own_below_pt P9.out hb3)
            have HBX3 := Lib.hid (HBX.out.below hb3)
            obtain ⟨f0, f1, f2⟩ := pt_cells (HX.out.below B3.out) HQR.out
            simp only at f0 f1 f2
            have m0 : (0 : Int) ≤ (m : Int) := by omega
            have m1 : (m : Int) < (l.length : Int) := by have := HML.out; omega
            clear ho10 hb3 d0 d1 d2 c0 c1 c2
            go_wp2_with fail
            refine (HPB.out w3 (own_rd_at Q8.out rfl)).mono ?_
            rintro e w4 ⟨A11, c11, rfl, ho11, hb4⟩
            have O11 := Lib.hid (ho11.lower B3.out.size)
            have B4 := Lib.hid (B3.out.trans (hb4.mono B3.out.size))
            have R9 := Lib.hid (own_below_pt Q9.out hb4); have R10 := Lib.hid (own_below_pt O10.out hb4)
            obtain ⟨g0, g1, g2⟩ := (HBX3.out.below hb4).cells
            simp only at g0 g1 g2
            clear ho11 hb4 f0 f1 f2
            go_wp2_with fail
            refine (HMC.out _ w4.heap.size ((own_rd_at R9.out rfl).alloc _) (rd_row w4 [.int .i64 p1, .int .u64 p2, .int .u64 p3] 25)).mono ?_
            rintro e w5 ⟨A12, c12, rfl, kc12, ho12, hb5⟩
            have hal := (RowKit.Below.refl w4.heap.size w4).alloc (Nat.le_refl _) (.cells #[.int .i64 p1, .int .u64 p2, .int .u64 p3] 25)
            have hb6 := hal.trans (hb5.mono hal.size)
            have O12 := Lib.hid (ho12.lower (Nat.le_trans B4.out.size hal.size))
            have B5 := Lib.hid (B4.out.trans (hb6.mono B4.out.size))
            have S10 := Lib.hid (own_below_pt R10.out hb6); have R11 := Lib.hid (own_below_pt O11.out hb6)
            clear ho12 hb5 hb6 hal g0 g1 g2
            go_wp2_with fail
            refine (right_any A10 c10 a' w5 (own_rd_at S10.out rfl) (by omega)).mono ?_
            rintro e w6 ⟨rfl, hb7⟩
            rw [HRA.out]
            have T10 := Lib.hid (own_below_pt S10.out hb7); have S11 := Lib.hid (own_below_pt R11.out hb7); have S12 := Lib.hid (own_below_pt O12.out hb7)
            have B6 := Lib.hid (B5.out.trans (hb7.mono B5.out.size))
            clear hb7
            go_wp2_with fail
            go_roundw
            case rel =>
              first
                | exact ⟨k + 1, a', b', c', by go_num, by omega, by omega, by omega, by omega, (show Aside _ from T10.out), (show Aside _ from S11.out), (show Aside _ from S12.out), (show Aside _ from HFA.out), (show Aside _ from HFB.out), (show Aside _ from HFC.out), (show Aside _ from B6.out)⟩
                | (repeat (apply Exists.intro)
                   refine And.intro ?_ rfl
                   exact ⟨k + 1, a', b', c', by go_num, by omega, by omega, by omega, by omega, (show Aside _ from T10.out), (show Aside _ from S11.out), (show Aside _ from S12.out), (show Aside _ from HFA.out), (show Aside _ from HFB.out), (show Aside _ from HFC.out), (show Aside _ from B6.out)⟩)
            case measure => simp [intOf]; omega
          · have hm1 : (l.length : Int) - 1 - (k : Int) = (m : Int) := by
              rw [HM.out]; unfold kkN; rw [if_neg ht]; omega
            have HM1 := Lib.hid hm1; clear hm1 hemn heml hn0
            go_wp2_with fail
            rw [← HW1.out]
            go_wp2_with fail
            simp only [HM1.out]
            refine (HPA.out W1 (own_rd_at P7.out rfl)).mono ?_
            rintro e w3 ⟨A10, c10, rfl, ho10, hb3⟩
            have O10 := Lib.hid (ho10.lower B1'.out.size)
            have B3 := Lib.hid (B1'.out.trans (hb3.mono B1'.out.size))
            have Q8 := Lib.hid (own_below_pt P8.out hb3); have Q9 := Lib.hid (own_below_pt P9.out hb3)
            have HBX3 := Lib.hid (HBX.out.below hb3)
            obtain ⟨f0, f1, f2⟩ := pt_cells (HX.out.below B3.out) HQR.out
            simp only at f0 f1 f2
            have m0 : (0 : Int) ≤ (m : Int) := by omega
            have m1 : (m : Int) < (l.length : Int) := by have := HML.out; omega
            clear ho10 hb3 d0 d1 d2 c0 c1 c2
            go_wp2_with fail
            refine (HPB.out w3 (own_rd_at Q8.out rfl)).mono ?_
            rintro e w4 ⟨A11, c11, rfl, ho11, hb4⟩
            have O11 := Lib.hid (ho11.lower B3.out.size)
            have B4 := Lib.hid (B3.out.trans (hb4.mono B3.out.size))
            have R9 := Lib.hid (own_below_pt Q9.out hb4); have R10 := Lib.hid (own_below_pt O10.out hb4)
            obtain ⟨g0, g1, g2⟩ := (HBX3.out.below hb4).cells
            simp only at g0 g1 g2
            clear ho11 hb4 f0 f1 f2
            go_wp2_with fail
            refine (HMC.out _ w4.heap.size ((own_rd_at R9.out rfl).alloc _) (rd_row w4 [.int .i64 p1, .int .u64 p2, .int .u64 p3] 25)).mono ?_
            rintro e w5 ⟨A12, c12, rfl, kc12, ho12, hb5⟩
            have hal := (RowKit.Below.refl w4.heap.size w4).alloc (Nat.le_refl _) (.cells #[.int .i64 p1, .int .u64 p2, .int .u64 p3] 25)
            have hb6 := hal.trans (hb5.mono hal.size)
            have O12 := Lib.hid (ho12.lower (Nat.le_trans B4.out.size hal.size))
            have B5 := Lib.hid (B4.out.trans (hb6.mono B4.out.size))
            have S10 := Lib.hid (own_below_pt R10.out hb6); have R11 := Lib.hid (own_below_pt O11.out hb6)
            clear ho12 hb5 hb6 hal g0 g1 g2
            go_wp2_with fail
            refine (right_any A10 c10 a' w5 (own_rd_at S10.out rfl) (by omega)).mono ?_
            rintro e w6 ⟨rfl, hb7⟩
            rw [HRA.out]
            have T10 := Lib.hid (own_below_pt S10.out hb7); have S11 := Lib.hid (own_below_pt R11.out hb7); have S12 := Lib.hid (own_below_pt O12.out hb7)
            have B6 := Lib.hid (B5.out.trans (hb7.mono B5.out.size))
            clear hb7
            go_wp2_with fail
            go_roundw
            case rel =>
              first
                | exact ⟨k + 1, a', b', c', by go_num, by omega, by omega, by omega, by omega, (show Aside _ from T10.out), (show Aside _ from S11.out), (show Aside _ from S12.out), (show Aside _ from HFA.out), (show Aside _ from HFB.out), (show Aside _ from HFC.out), (show Aside _ from B6.out)⟩
                | (repeat (apply Exists.intro)
                   refine And.intro ?_ rfl
                   exact ⟨k + 1, a', b', c', by go_num, by omega, by omega, by omega, by omega, (show Aside _ from T10.out), (show Aside _ from S11.out), (show Aside _ from S12.out), (show Aside _ from HFA.out), (show Aside _ from HFB.out), (show Aside _ from HFC.out), (show Aside _ from B6.out)⟩)
            case measure => simp [intOf]; omega
        · obtain rfl : k = l.length := by omega
          have hfa := FA.out; have hfb := FB.out; have hfc := FC.out
          rw [List.take_length] at hfa hfc
          have hab := hfa.same (hfb.congr (turned_all l t))
          have hac := hfa.same hfc
          subst hab; subst hac
          have P7 := Lib.hid OA.out; have P8 := Lib.hid OB.out; have P9 := Lib.hid OC.out; have B3 := Lib.hid BW.out
          clear FA FB FC OA OB OC BW hfa hfb hfc
          go_wp2_with fail
          refine (same_any A7 A8 c7 c8 a a _ (own_rd_at P7.out rfl) (own_rd_at P8.out rfl) (by omega) (by omega)).mono ?_
          rintro e w4 ⟨rfl, hb4⟩
          rw [decide_eq_true rfl]
          have Q7 := Lib.hid (own_below_pt P7.out hb4); have Q9 := Lib.hid (own_below_pt P9.out hb4)
          have B4 := Lib.hid (B3.out.trans (hb4.mono B3.out.size)); clear hb4
          go_wp2_with fail
          refine (same_any A7 A9 c7 c9 a a _ (own_rd_at Q7.out rfl) (own_rd_at Q9.out rfl) (by omega) (by omega)).mono ?_
          rintro e w5 ⟨rfl, hb5⟩
          rw [decide_eq_true rfl]
          have B5 := Lib.hid (B4.out.trans (hb5.mono B4.out.size)); clear hb5
          go_wp2
          go_ret
          exact ⟨rfl, B5.out⟩
theorem pointsFolds_walk (A : Option Addr) (ca : Nat) (l : List Pt) (t : Int) (w : World) (hx : Rd w A (pcells l)) (hc : l.length ≤ ca) (hbt : -9223372036854775808 ≤ t ∧ t ≤ 9223372036854775807) (hm : ca ≤ 9223372036854775807) :
    Calls Try.prog 8 #[.slice A l.length ca, .int .i64 t] w fun e w' => e = .returned (.bool true) ∧ RowKit.Below w.heap.size w w' := by
  by_cases hl : l.length ≤ 60
  · exact pointsFolds_in A ca l t w hx hc hl hbt
  · have HF := Lib.hid (fun w => few_any A ca l w)
    have HLV := Lib.hid live_any
    have h60 : (60 : Int) < (l.length : Int) := by omega
    obtain ⟨la, hla⟩ : ∃ x, x = decide (l.length ≤ 400) := ⟨_, rfl⟩
    rw [← hla] at HF
    clear hla hx
    cases la
    all_goals
      go_enter Try.func8, Try.ntmps8
      go_wp2_with fail
      refine (HLV.out _).mono ?_
      rintro e w1 ⟨rfl, hb1⟩
      have B1 := Lib.hid hb1; clear hb1
      go_wp2_with fail
      refine (HF.out _).mono ?_
      rintro e w2 ⟨rfl, rfl⟩
      go_wp2_with fail
      refine (HLV.out _).mono ?_
      rintro e wz ⟨rfl, hbz⟩
      have BZ := Lib.hid (B1.out.trans (hbz.mono B1.out.size)); clear hbz
      go_wp2
      go_ret
      exact ⟨rfl, BZ.out⟩
end

set_option maxRecDepth 100000 in
theorem pointsFolds_lifted (os : Os) (started : os.Started) (H : Type) (enc : TypeId × Value → H) :
    ReturnsInHanded {} Try.checked os 8 .any (Rows.pointsFoldsSpec.pre6 enc Try.prog Try.f8 Rows.pointsFoldsRow.domain false) (Rows.pointsFoldsSpec.post enc Try.prog Try.f8 false true false false) := by
  refine returnsInHanded_of_change (C := Try.checked) ownKn started (by kernel_rfl) Try.func8
    (ChangeSpec.witness6 (enc := enc) (C := Try.checked) false ⟨#[], #[.slice none 0 0, .int .i64 0], []⟩ 8 (by kernel_rfl) (by kernel_rfl) (by kernel_rfl) (by kernel_rfl)) ?_
  intro W base args ds gs before hval0 hW hcnd _
  have hval : ∀ (j : Nat) t v, Try.f8.params[j]? = some t → args[j]? = some v → Value.okWide Try.prog W .any base t v := hval0
  have hW' := hW
  obtain ⟨p, q, hA0, hV, rfl, hfz, hnd⟩ := hW
  have hA : DataW.TrodAll enc Try.prog W 0 (fun _ => true) true Try.f8.params.toList args.toList ds p := hA0
  rw [Try.params8] at hA hval
  obtain ⟨v0, vs0, d0, ds0, p0, q0, hargs, rfl, rfl, h0, r0⟩ := trodAll_cons hA
  obtain ⟨v1, vs1, d1, ds1, p1, q1, rfl, rfl, rfl, h1, r1⟩ := trodAll_cons r0
  obtain ⟨rfl, rfl, rfl⟩ := trodAll_nil r1
  obtain rfl : args = #[v0, v1] := by cases args; simp_all
  obtain ⟨rfl, rfl⟩ := trodVars_none hV
  obtain ⟨A0, c0, l0, rfl, hm0, hx0⟩ := open_points (hval 0 22 v0 rfl rfl) h0
  obtain ⟨a1, rfl, rfl, rfl, w1⟩ := open_int Try.underlying3 (hval 1 3 v1 rfl rfl) h1
  clear hA0 hval0 hA
  unfold maxLen at hm0
  have b1 := bounds_i64 w1
  refine (pointsFolds_walk A0 c0 l0 a1 W hx0 hm0.1 b1 hm0.2).mono fun e W' ⟨he, hg⟩ => ?_
  subst he
  exact ⟨_, rfl, law_end laidOut (by kernel_rfl) (by kernel_rfl) Try.underlying4 rfl hW' ⟨rfl, rfl, rfl⟩ hg⟩

theorem pointsFolds_holds : Rows.PointsFoldsSaid :=
  OpenClaim.holds_of_wide 8 Try.f8 rfl rfl rfl rfl rfl rfl rfl ⟨rfl, rfl, rfl, rfl, rfl⟩ rfl rfl rfl rfl rfl (by kernel_rfl) Try.func8 (by kernel_rfl)
    (of_decide_eq_true (by kernel_rfl)) (by unfold Func.isWrapper; first | (rw [if_pos (by decide +kernel)]; kernel_rfl) | (rw [if_neg (by decide +kernel)]; exact ⟨rfl, rfl⟩))
    (fun os started H enc _ => pointsFolds_lifted os started H enc)
#print axioms pointsFolds_holds

end Go.Proofs.Ytfohmepjedehfaa
