/-
  Labels held against one another: which come first, by the plain answers.
-/
import Derived.Test.YtpdbpgebgjgbkaaDoorCm
namespace Go.Proofs.YtpdbpgebgjgbkaaDoor
set_option linter.unusedVariables false
set_option linter.unusedSimpArgs false
open Go.RowKit
theorem less_bs : ∀ a b : Bs, Op.bytesLess a b = decide (a < b)
  | [], [] => by simp [Op.bytesLess]
  | _ :: _, [] => by simp [Op.bytesLess]
  | [], _ :: _ => by simp [Op.bytesLess]
  | x :: a, y :: b => by
    unfold Op.bytesLess
    rw [less_bs a b]
    simp only [List.cons_lt_cons_iff]
    by_cases h1 : x < y <;> by_cases h2 : x = y <;> simp [h1, h2]
section
set_option maxHeartbeats 1600000
set_option maxRecDepth 100000
theorem text_any (a b : ByteArray) (w : World) : Calls Tryd.prog 53 #[.string a, .string b] w fun e w' => e = .returned (.int .i64 (Lib.compareBytes (bl a) (bl b))) ∧ w' = w := by
  have q1 : Op.bytesLess a.toList b.toList = decide (bl a < bl b) := by rw [less_bs, toList_bl, toList_bl]
  have q2 : (a.toList == b.toList) = decide (bl a = bl b) := by rw [toList_bl, toList_bl, Bool.beq_eq_decide_eq]
  have q3 : (a.toList = b.toList) = (bl a = bl b) := by rw [toList_bl, toList_bl]
  rcases cmpB_spec (bl a) (bl b) with ⟨e, h⟩ | ⟨e, h⟩ | ⟨e, h⟩
  · rw [e]
    rw [decide_eq_true h] at q1
    clear h e q2 q3
    go_enter Tryd.func53, Tryd.ntmps53
    go_wp2
    go_ret
    exact ⟨rfl, rfl⟩
  · rw [e]
    have hab := bl_inj h
    subst hab
    rw [decide_eq_false (ltB_irrefl _)] at q1
    have hgt : ∀ W, (binOp .gtr 9 (.string a) (.string a)).run Tryd.prog W = .ok (.bool false) W := fun W => by simp [binOp, Op.stringOp, q1]
    clear h e q2 q3
    go_enter Tryd.func53, Tryd.ntmps53
    go_wp2
    go_ret
    exact ⟨rfl, rfl⟩
  · rw [e]
    have n : ¬ bl a = bl b := fun hh => by rw [hh] at h; exact ltB_irrefl _ h
    rw [decide_eq_false (ltB_asymm h)] at q1
    rw [decide_eq_false n] at q2
    have q3' : ¬ a.toList = b.toList := by rw [q3]; exact n
    have hgt : ∀ W, (binOp .gtr 9 (.string a) (.string b)).run Tryd.prog W = .ok (.bool true) W := fun W => by simp [binOp, Op.stringOp, q1, q3']
    clear h e n q2 q3 q3'
    go_enter Tryd.func53, Tryd.ntmps53
    go_wp2
    go_ret
    exact ⟨rfl, rfl⟩
theorem rcmp_any (A B : Option Addr) (ca cb : Nat) (l m : List Lb) (w : World) (hx : Rd w A (lcells l)) (hy : Rd w B (lcells m)) (hl : l.length ≤ 1000000) (hm : m.length ≤ 1000000) :
    Calls Tryd.prog 25 #[.slice A l.length ca, .slice B m.length cb] w fun e w' => e = .returned (.int .i64 (compareP l m)) ∧ ∃ n, w' = w.drewN n := by
  obtain ⟨R, hR⟩ : ∃ R, R = compareP l m := ⟨_, rfl⟩
  rw [← hR]
  have HR := Lib.hid hR; clear hR
  obtain ⟨N, hN⟩ : ∃ N, N = min l.length m.length := ⟨_, rfl⟩
  have hmin : min (l.length : Int) (m.length : Int) = (N : Int) := by omega
  have hN1 : N ≤ l.length := by omega
  have hN2 : N ≤ m.length := by omega
  have HN := Lib.hid hN; clear hN
  go_enter Tryd.func25, Tryd.ntmps25
  go_wp2
  go_loopw [13] (fun s13 wr => ∃ k n : Nat, s13 = .int .i64 k ∧ k ≤ N ∧ wr = w.drewN n ∧ Aside (l.take k = m.take k) ∧ Aside (R = compareP (l.drop k) (m.drop k))) (fun s13 _ => N - (intOf s13).toNat)
  case atStart => exact ⟨0, 0, rfl, by omega, rfl, rfl, HR.out⟩
  case round =>
    obtain ⟨k, n, rfl, hk, rfl, E, F⟩ := hrel
    have k0 : (0 : Int) ≤ (k : Int) := by omega
    by_cases hlt : k < N
    · have hlt1 : k < l.length := by omega
      have hlt2 : k < m.length := by omega
      have k1 : (k : Int) < (N : Int) := by omega
      have k2 : (k : Int) < (l.length : Int) := by omega
      have k3 : (k : Int) < (m.length : Int) := by omega
      have hnn : ∀ q, (w.drewN n).drewN q = w.drewN (n + q) := fun q => World.drewN_drewN _ _ _
      obtain ⟨b, off, rfl, c0, c1⟩ := lb_at (hx.drewN n) hlt1
      obtain ⟨b', off', rfl, d0, d1⟩ := lb_at (hy.drewN n) hlt2
      have HNN := Lib.hid hnn; clear hnn
      generalize hW : w.drewN n = W at c0 c1 d0 d1 HNN
      have HW := Lib.hid hW; clear hW hx hy
      have hF := F.out
      rw [List.drop_eq_getElem_cons hlt1, List.drop_eq_getElem_cons hlt2, compareP] at hF
      have hstep : l[k] = m[k] → l.take (k + 1) = m.take (k + 1) := fun h => by
        rw [List.take_succ_eq_append_getElem hlt1, List.take_succ_eq_append_getElem hlt2, E.out, h]
      have HS := Lib.hid hstep; clear hstep F
      generalize l[k] = x at c0 c1 hF HS
      generalize m[k] = y at d0 d1 hF HS
      have hxy : Lib.compareBytes (bl x.1) (bl y.1) = 0 → Lib.compareBytes (bl x.2) (bl y.2) = 0 → x = y := fun h1 h2 => Prod.ext (bl_inj (cmpB_zero.1 h1)) (bl_inj (cmpB_zero.1 h2))
      obtain ⟨x1, x2⟩ := x
      obtain ⟨y1, y2⟩ := y
      simp only at c0 c1 d0 d1 hF hxy
      have ht1 := fun W => text_any x1 y1 W
      have ht2 := fun W => text_any x2 y2 W
      generalize Lib.compareBytes (bl x1) (bl y1) = r1 at ht1 hF hxy
      generalize Lib.compareBytes (bl x2) (bl y2) = r2 at ht2 hF hxy
      have HT1 := Lib.hid ht1; have HT2 := Lib.hid ht2
      clear ht1 ht2
      by_cases h1 : r1 = 0
      · subst h1
        rw [if_neg (by simp)] at hF
        by_cases h2 : r2 = 0
        · subst h2
          rw [if_neg (by simp)] at hF
          have HF := Lib.hid hF; clear hF
          have HST := Lib.hid (HS.out (hxy rfl rfl)); clear HS hxy
          go_wp2_with fail
          go_quiet (first | ((go_at_call 53; with_reducible exact Calls.quiet_of_same (HT1.out _))))
          go_wp2_with fail
          obtain ⟨n1, hn1⟩ : ∃ n1, n1 = nq := ⟨_, rfl⟩
          rw [← hn1]
          clear hn1
          obtain ⟨V, hV⟩ : ∃ V, V = W.drewN n1 := ⟨_, rfl⟩
          have c1' : V.cell? ⟨b, off + k * 2 + 1, none⟩ = some (.string x2) := by rw [hV]; exact c1
          have d1' : V.cell? ⟨b', off' + k * 2 + 1, none⟩ = some (.string y2) := by rw [hV]; exact d1
          have HV := Lib.hid hV
          rw [← hV]
          clear hV c0 c1 d0 d1
          go_quiet (first | ((go_at_call 53; with_reducible exact Calls.quiet_of_same (HT2.out _))))
          go_wp2
          go_roundw
          case rel => exact ⟨k + 1, n + n1 + nq, by go_num, by omega, by rw [HV.out, HNN.out]; exact World.drewN_drewN _ _ _, (show Aside _ from HST.out), (show Aside _ from HF.out)⟩
          case measure => simp [intOf]; omega
        · have g2 : (r2 != 0) = true := by rw [bne_iff_ne]; exact h2
          rw [if_pos h2] at hF
          subst hF
          clear HS hxy
          go_wp2_with fail
          go_quiet (first | ((go_at_call 53; with_reducible exact Calls.quiet_of_same (HT1.out _))))
          go_wp2_with fail
          obtain ⟨n1, hn1⟩ : ∃ n1, n1 = nq := ⟨_, rfl⟩
          rw [← hn1]
          clear hn1
          obtain ⟨V, hV⟩ : ∃ V, V = W.drewN n1 := ⟨_, rfl⟩
          have c1' : V.cell? ⟨b, off + k * 2 + 1, none⟩ = some (.string x2) := by rw [hV]; exact c1
          have d1' : V.cell? ⟨b', off' + k * 2 + 1, none⟩ = some (.string y2) := by rw [hV]; exact d1
          have HV := Lib.hid hV
          rw [← hV]
          clear hV c0 c1 d0 d1
          go_quiet (first | ((go_at_call 53; with_reducible exact Calls.quiet_of_same (HT2.out _))))
          go_wp2
          go_ret
          exact ⟨rfl, n + n1 + nq, by rw [HV.out, HNN.out]; exact World.drewN_drewN _ _ _⟩
      · have g1 : (r1 != 0) = true := by rw [bne_iff_ne]; exact h1
        rw [if_pos h1] at hF
        subst hF
        clear HS hxy
        go_wp2_with fail
        go_quiet (first | ((go_at_call 53; with_reducible exact Calls.quiet_of_same (HT1.out _))))
        go_wp2
        go_ret
        exact ⟨rfl, n + nq, HNN.out _⟩
    · obtain rfl : k = N := by omega
      have hr : R = Lib.compareInt l.length m.length := by rw [F.out]; exact compareP_end _ l m HN.out E.out
      unfold Lib.compareInt at hr
      clear hx hy
      by_cases q1 : (l.length : Int) < (m.length : Int)
      · rw [if_pos q1] at hr
        subst hr
        go_wp2
        go_ret
        exact ⟨rfl, n, rfl⟩
      · rw [if_neg q1] at hr
        by_cases q2 : (l.length : Int) > (m.length : Int)
        · rw [if_pos q2] at hr
          have q3 : (m.length : Int) < (l.length : Int) := q2
          subst hr
          go_wp2
          go_ret
          exact ⟨rfl, n, rfl⟩
        · rw [if_neg q2] at hr
          have q3 : ¬ (m.length : Int) < (l.length : Int) := q2
          subst hr
          go_wp2
          go_ret
          exact ⟨rfl, n, rfl⟩
end
end Go.Proofs.YtpdbpgebgjgbkaaDoor
