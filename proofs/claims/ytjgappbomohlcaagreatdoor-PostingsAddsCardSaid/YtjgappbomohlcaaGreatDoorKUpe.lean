/-
  Numbers parted by one of them, equal ones first.
-/
import Derived.Sort.LotC
import Derived.Deep.DeepCutAuto
import Derived.Test.YtjgappbomohlcaaGreatDoorK01
namespace Go.Proofs.YtjgappbomohlcaaGreatDoor
section
set_option linter.unusedVariables false
set_option linter.unusedSimpArgs false
open Go.RowKit Go.Sort
section
theorem parteq_step {d : Array Nat} {a i j I J : Nat} (h2 : scanUp (fun x => !ltN d[a]! x) d j i = I) (h3 : scanDown (fun x => ltN d[a]! x) d I j = J) (hi : i ≤ I) (hj : J ≤ j) :
    partEqLoop ltN a i j d = if J < I then (I, d) else partEqLoop ltN a (I + 1) (J - 1) (swp d I J) := by
  conv => lhs; rw [partEqLoop]
  simp only [h2, h3]
  by_cases h : J < I
  · rw [if_pos h, if_pos h]
  · rw [if_neg h, if_neg h, dif_pos (by omega)]
end
section
set_option maxHeartbeats 6400000
set_option maxRecDepth 100000
theorem parteq_any (b c a hi pv : Nat) (tl : List Value) (d : Array Nat) (w : World) (h : UR w b tl d) (hb : hi ≤ d.size) (hz : d.size ≤ 1000000) (hap : a ≤ pv) (hpb : pv < hi) :
    Calls Tryz.prog 149 #[.slice (some ⟨b, 0, none⟩) d.size c, .int .i64 (a : Nat), .int .i64 (hi : Nat), .int .i64 (pv : Nat)] w fun e w' =>
      e = .returned (.int .i64 ((partitionEqual ltN d a hi pv).1 : Nat)) ∧ SO w b tl (partitionEqual ltN d a hi pv).2 w' := by
  obtain ⟨n, hn⟩ : ∃ n, n = d.size := ⟨_, rfl⟩
  rw [← hn] at hb hz ⊢
  have H := Lib.hid h; clear h
  have HN := Lib.hid hn
  have S0 : Aside (SO w b tl d w) := SO.refl H.out
  have hpn : pv < n := by omega
  have han : a < n := by omega
  clear hn
  obtain ⟨R, hR⟩ : ∃ R, R = partitionEqual ltN d a hi pv := ⟨_, rfl⟩
  rw [← hR]
  unfold partitionEqual at hR
  have HR := Lib.hid hR; clear hR
  have HL := Lib.hid (fun x y W => less_any x y W)
  have hsz : d.size = n := HN.out.symm
  go_enter Tryz.func149, Tryz.ntmps149
  go_wp2_with fail
  go_upto_region 1 with (fail)
  go_cut [] (fun wz => Aside (SO w b tl (swp d a pv) wz))
  case first =>
    have hfrz := S0.out.1.free
    have r1 := S0.out.1.at (i := a) (by omega)
    have r2 := S0.out.1.at (i := pv) (by omega)
    have hsw := S0.out.swp (i := a) (j := pv)
    have b1 : (a : Int) < (n : Int) := by omega
    have b2 : (pv : Int) < (n : Int) := by omega
    have z1 : (0 : Int) ≤ (a : Int) := by omega
    have z2 : (0 : Int) ≤ (pv : Int) := by omega
    by_cases hpq : a = pv
    · rw [← hpq] at r2 b2 z2 hsw
      obtain ⟨x, hx⟩ : ∃ x, x = d[a]! := ⟨_, rfl⟩
      rw [← hx] at r1 r2 hsw
      have HSW := Lib.hid hsw; clear hsw hx r2 b2 z2
      have e1 : (pv : Int) = (a : Int) := by omega
      have HPQ := Lib.hid hpq
      clear hpq
      go_region
      go_wp2_with fail
      go_meet
      rw [← HPQ.out]
      exact HSW.out _ (by omega) (by omega)
    · obtain ⟨x, hx⟩ : ∃ x, x = d[a]! := ⟨_, rfl⟩
      obtain ⟨y, hy⟩ : ∃ y, y = d[pv]! := ⟨_, rfl⟩
      rw [← hx] at r1 hsw
      rw [← hy] at r2 hsw
      have HSW := Lib.hid hsw; clear hsw hx hy
      have n1 : ¬ pv = a := fun e => hpq e.symm
      have n2 : ¬ (a : Int) = (pv : Int) := by omega
      have n3 : ¬ (pv : Int) = (a : Int) := by omega
      go_region
      go_wp2_with fail
      go_meet
      exact HSW.out _ (by omega) (by omega)
  case rest =>
    obtain ⟨wz, hwc⟩ : ∃ wz, wz = wc := ⟨_, rfl⟩
    rw [← hwc] at hcut ⊢
    clear hwc
    have HF := Lib.hid hcut.out
    clear hcut S0
    have q1 : (hi : Int) - 1 = ((hi - 1 : Nat) : Int) := by omega
    go_wp2
    go_loopw [9, 10] (fun s9 s10 wr => ∃ (i3 j3 : Nat) (dk : Array Nat), s9 = .int .i64 i3 ∧ s10 = .int .i64 j3 ∧ a + 1 ≤ i3 ∧ i3 ≤ n ∧ a ≤ j3 ∧ j3 < n ∧ dk.size = n ∧ Aside (SO w b tl dk wr) ∧ Aside (partEqLoop ltN a i3 j3 dk = R)) (fun s9 s10 _ => (intOf s10 + 1 - intOf s9).toNat)
    case atStart => exact ⟨a + 1, hi - 1, swp d a pv, by go_num, by go_num, by omega, by omega, by omega, by omega, by rw [size_swpN]; exact hsz, HF.out, HR.out.symm⟩
    case round =>
      obtain ⟨i3, j3, dk, rfl, rfl, ha1, ha2, ha3, ha4, hds, S3, E3⟩ := hrel
      obtain ⟨I0, hI0, hI0'⟩ : ∃ I0, i3 ≤ I0 ∧ I0 ≤ i3 := ⟨_, Nat.le_refl _, Nat.le_refl _⟩
      obtain ⟨J0, hJ0, hJ0'⟩ : ∃ J0, j3 ≤ J0 ∧ J0 ≤ j3 := ⟨_, Nat.le_refl _, Nat.le_refl _⟩
      obtain ⟨I, hI⟩ : ∃ I, scanUp (fun x => !ltN dk[a]! x) dk j3 i3 = I := ⟨_, rfl⟩
      obtain ⟨J, hJ⟩ : ∃ J, scanDown (fun x => ltN dk[a]! x) dk I j3 = J := ⟨_, rfl⟩
      have HI4 := Lib.hid hI; have HJ5 := Lib.hid hJ
      clear hI hJ
      obtain ⟨w9, h9⟩ : ∃ w9, w9 = wr := ⟨_, rfl⟩
      rw [← h9] at S3 ⊢
      clear h9
      go_wp2
      go_loopw [9] (fun s9 wr4 => ∃ i : Nat, s9 = .int .i64 i ∧ I0 ≤ i ∧ i ≤ n + 1 ∧ Aside (SO w b tl dk wr4) ∧ Aside (scanUp (fun x => !ltN dk[a]! x) dk j3 i = I)) (fun s9 _ => n + 1 - (intOf s9).toNat)
      case atStart => exact ⟨_, by first | rfl | go_num, by omega, by omega, S3.out, HI4.out⟩
      case round =>
        obtain ⟨i, rfl, hi1, hi2, S4, E4⟩ := hrel
        obtain ⟨wr4, hwq⟩ : ∃ wr4, wr4 = wr := ⟨_, rfl⟩
        rw [← hwq] at S4 ⊢
        clear hwq
        obtain ⟨q, hq⟩ : ∃ q : Bool, q = (decide (i ≤ j3) && !ltN dk[a]! dk[i]!) := ⟨_, rfl⟩
        have HQ := Lib.hid hq; clear hq
        go_upto_region 3 with (fail)
        go_cut [43] (fun s43 wx4 => s43 = .bool q ∧ ∃ m, wx4 = wr4.drewN m)
        case first =>
          have hfrz := S4.out.1.free
          have hq := HQ.out
          by_cases hg : i ≤ j3
          · rw [decide_eq_true hg, Bool.true_and] at hq
            have gi : (i : Int) ≤ (j3 : Int) := by omega
            have gd : decide (i ≤ j3) = true := decide_eq_true hg
            have r1 := S4.out.1.at (i := a) (by omega)
            have r2 := S4.out.1.at (i := i) (by omega)
            have b1 : (a : Int) < (n : Int) := by omega
            have b2 : (i : Int) < (n : Int) := by omega
            have z1 : (0 : Int) ≤ (a : Int) := by omega
            have z2 : (0 : Int) ≤ (i : Int) := by omega
            have hLL := HL.out dk[a]! dk[i]!
            obtain ⟨x1, hx⟩ : ∃ x1, x1 = dk[a]! := ⟨_, rfl⟩
            obtain ⟨y1, hy⟩ : ∃ y1, y1 = dk[i]! := ⟨_, rfl⟩
            rw [← hx] at r1 hLL hq
            rw [← hy] at r2 hLL hq
            clear hx hy HQ
            obtain ⟨t, ht⟩ : ∃ t, t = ltN x1 y1 := ⟨_, rfl⟩
            rw [← ht] at hLL hq
            have HLL := Lib.hid hLL; clear hLL ht
            subst hq
            go_quiet (first | ((go_at_call 148; with_reducible exact Calls.quiet_of_same (HLL.out _))))
            go_wp2_with fail
            go_meet
            exact ⟨rfl, _, rfl⟩
          · rw [decide_eq_false hg, Bool.false_and] at hq
            have gi : ¬ (i : Int) ≤ (j3 : Int) := by omega
            have gd : decide (i ≤ j3) = false := decide_eq_false hg
            subst hq
            go_quiet (fail)
            go_wp2_with fail
            go_meet
            exact ⟨rfl, _, rfl⟩
        case rest =>
          obtain ⟨rfl, m, hwm⟩ := hcut
          have S4d : Aside (SO w b tl dk wc) := by rw [hwm]; exact S4.out.drewN m
          clear hwm S4
          obtain ⟨wx4, hwc⟩ : ∃ wx4, wx4 = wc := ⟨_, rfl⟩
          rw [← hwc] at S4d ⊢
          clear hwc
          cases q with
          | true =>
            have hg : i ≤ j3 ∧ (!ltN dk[a]! dk[i]!) = true := by have h := HQ.out.symm; rw [Bool.and_eq_true, decide_eq_true_eq] at h; exact h
            obtain ⟨hg1, hg2⟩ := hg
            have hE := E4.out
            rw [scanUp, if_pos (by rw [Bool.and_eq_true, decide_eq_true_eq]; exact ⟨hg1, hg2⟩)] at hE
            have HE := Lib.hid hE; clear hE hg2
            go_wp2
            go_roundw
            case rel => exact ⟨i + 1, by go_num, by omega, by omega, (show Aside _ from S4d.out), (show Aside _ from HE.out)⟩
            case measure => simp [intOf]; omega
          | false =>
            have hg : ¬ (i ≤ j3 ∧ (!ltN dk[a]! dk[i]!) = true) := fun h => by have h2 := HQ.out; rw [decide_eq_true h.1, h.2] at h2; cases h2
            have hI : i = I := by
              have hE := E4.out
              rw [scanUp, if_neg (by rw [Bool.and_eq_true, decide_eq_true_eq]; exact hg)] at hE
              exact hE
            clear hg E4
            subst hI
            go_wp2
            go_loopw [10] (fun s10 wr5 => ∃ j : Nat, s10 = .int .i64 j ∧ a ≤ j ∧ j ≤ J0 ∧ j < n ∧ Aside (SO w b tl dk wr5) ∧ Aside (scanDown (fun x => ltN dk[a]! x) dk i j = J)) (fun s10 _ => (intOf s10).toNat)
            case atStart => exact ⟨_, by first | rfl | go_num, by omega, by omega, by omega, S4d.out, HJ5.out⟩
            case round =>
              obtain ⟨j, rfl, hj1, hj2, hj3, S5, E5⟩ := hrel
              obtain ⟨wr5, hwq⟩ : ∃ wr5, wr5 = wr := ⟨_, rfl⟩
              rw [← hwq] at S5 ⊢
              clear hwq
              obtain ⟨q, hq⟩ : ∃ q : Bool, q = (decide (i ≤ j) && ltN dk[a]! dk[j]!) := ⟨_, rfl⟩
              have HQ := Lib.hid hq; clear hq
              go_upto_region 5 with (fail)
              go_cut [59] (fun s59 wx5 => s59 = .bool q ∧ ∃ m, wx5 = wr5.drewN m)
              case first =>
                have hfrz := S5.out.1.free
                have hq := HQ.out
                by_cases hg : i ≤ j
                · rw [decide_eq_true hg, Bool.true_and] at hq
                  have gi : (i : Int) ≤ (j : Int) := by omega
                  have gd : decide (i ≤ j) = true := decide_eq_true hg
                  have r1 := S5.out.1.at (i := a) (by omega)
                  have r2 := S5.out.1.at (i := j) (by omega)
                  have b1 : (a : Int) < (n : Int) := by omega
                  have b2 : (j : Int) < (n : Int) := by omega
                  have z1 : (0 : Int) ≤ (a : Int) := by omega
                  have z2 : (0 : Int) ≤ (j : Int) := by omega
                  have hLL := HL.out dk[a]! dk[j]!
                  obtain ⟨x1, hx⟩ : ∃ x1, x1 = dk[a]! := ⟨_, rfl⟩
                  obtain ⟨y1, hy⟩ : ∃ y1, y1 = dk[j]! := ⟨_, rfl⟩
                  rw [← hx] at r1 hLL hq
                  rw [← hy] at r2 hLL hq
                  clear hx hy HQ
                  obtain ⟨t, ht⟩ : ∃ t, t = ltN x1 y1 := ⟨_, rfl⟩
                  rw [← ht] at hLL hq
                  have HLL := Lib.hid hLL; clear hLL ht
                  subst hq
                  go_quiet (first | ((go_at_call 148; with_reducible exact Calls.quiet_of_same (HLL.out _))))
                  go_wp2_with fail
                  go_meet
                  exact ⟨rfl, _, rfl⟩
                · rw [decide_eq_false hg, Bool.false_and] at hq
                  have gi : ¬ (i : Int) ≤ (j : Int) := by omega
                  have gd : decide (i ≤ j) = false := decide_eq_false hg
                  subst hq
                  go_quiet (fail)
                  go_wp2_with fail
                  go_meet
                  exact ⟨rfl, _, rfl⟩
              case rest =>
                obtain ⟨rfl, m, hwm⟩ := hcut
                have S5d : Aside (SO w b tl dk wc) := by rw [hwm]; exact S5.out.drewN m
                clear hwm S5
                obtain ⟨wx5, hwc⟩ : ∃ wx5, wx5 = wc := ⟨_, rfl⟩
                rw [← hwc] at S5d ⊢
                clear hwc
                cases q with
                | true =>
                  have hg : i ≤ j ∧ (ltN dk[a]! dk[j]!) = true := by have h := HQ.out.symm; rw [Bool.and_eq_true, decide_eq_true_eq] at h; exact h
                  obtain ⟨hg1, hg2⟩ := hg
                  obtain ⟨p, rfl⟩ : ∃ p, j = p + 1 := ⟨j - 1, by omega⟩
                  have hE := E5.out
                  rw [scanDown, if_pos (by rw [Bool.and_eq_true, decide_eq_true_eq]; exact ⟨hg1, hg2⟩)] at hE
                  have HE := Lib.hid hE; clear hE hg2
                  have q1 : ((p + 1 : Nat) : Int) - 1 = (p : Int) := by omega
                  go_wp2
                  go_roundw
                  case rel => exact ⟨p, by go_num, by omega, by omega, by omega, (show Aside _ from S5d.out), (show Aside _ from HE.out)⟩
                  case measure => simp [intOf]
                | false =>
                  have hg : ¬ (i ≤ j ∧ (ltN dk[a]! dk[j]!) = true) := fun h => by have h2 := HQ.out; rw [decide_eq_true h.1, h.2] at h2; cases h2
                  have hJ : j = J := by
                    have hE := E5.out
                    cases j with
                    | zero => exact hE
                    | succ p =>
                      rw [scanDown, if_neg (by rw [Bool.and_eq_true, decide_eq_true_eq]; exact hg)] at hE
                      exact hE
                  clear hg E5
                  subst hJ
                  have hE := E3.out
                  rw [parteq_step HI4.out HJ5.out (by omega) (by omega)] at hE
                  by_cases hij : j < i
                  · rw [if_pos hij] at hE
                    have k1 : (j : Int) < (i : Int) := by omega
                    have HE := Lib.hid hE; clear hE E3
                    have HF := Lib.hid S5d.out
                    go_wp2
                    go_ret
                    rw [← HE.out]
                    exact ⟨rfl, HF.out⟩
                  · rw [if_neg hij] at hE
                    have k1 : ¬ (j : Int) < (i : Int) := by omega
                    have HE := Lib.hid hE; clear hE E3
                    go_wp2
                    go_cut [] (fun wz2 => Aside (SO w b tl (swp dk i j) wz2))
                    case first =>
                      have hfrz := S5d.out.1.free
                      have r1 := S5d.out.1.at (i := i) (by omega)
                      have r2 := S5d.out.1.at (i := j) (by omega)
                      have hsw := S5d.out.swp (i := i) (j := j)
                      have b1 : (i : Int) < (n : Int) := by omega
                      have b2 : (j : Int) < (n : Int) := by omega
                      have z1 : (0 : Int) ≤ (i : Int) := by omega
                      have z2 : (0 : Int) ≤ (j : Int) := by omega
                      by_cases hpq : i = j
                      · rw [← hpq] at r2 b2 z2 hsw
                        obtain ⟨x, hx⟩ : ∃ x, x = dk[i]! := ⟨_, rfl⟩
                        rw [← hx] at r1 r2 hsw
                        have HSW := Lib.hid hsw; clear hsw hx r2 b2 z2
                        have e1 : (j : Int) = (i : Int) := by omega
                        have HPQ := Lib.hid hpq
                        clear hpq
                        go_region
                        go_wp2_with fail
                        go_meet
                        rw [← HPQ.out]
                        exact HSW.out _ (by omega) (by omega)
                      · obtain ⟨x, hx⟩ : ∃ x, x = dk[i]! := ⟨_, rfl⟩
                        obtain ⟨y, hy⟩ : ∃ y, y = dk[j]! := ⟨_, rfl⟩
                        rw [← hx] at r1 hsw
                        rw [← hy] at r2 hsw
                        have HSW := Lib.hid hsw; clear hsw hx hy
                        have n1 : ¬ j = i := fun e => hpq e.symm
                        have n2 : ¬ (i : Int) = (j : Int) := by omega
                        have n3 : ¬ (j : Int) = (i : Int) := by omega
                        go_region
                        go_wp2_with fail
                        go_meet
                        exact HSW.out _ (by omega) (by omega)
                    case rest =>
                      obtain ⟨wz2, hwc⟩ : ∃ wz2, wz2 = wc := ⟨_, rfl⟩
                      rw [← hwc] at hcut ⊢
                      clear hwc
                      have HF := Lib.hid hcut.out
                      clear hcut
                      have q1 : (j : Int) - 1 = ((j - 1 : Nat) : Int) := by omega
                      go_wp2
                      go_roundw
                      case rel => exact ⟨i + 1, j - 1, swp dk i j, by go_num, by go_num, by omega, by omega, by omega, by omega, by rw [size_swpN]; exact hds, (show Aside _ from HF.out), (show Aside _ from HE.out)⟩
                      case measure => simp [intOf]; omega
end
end
end Go.Proofs.YtjgappbomohlcaaGreatDoor
