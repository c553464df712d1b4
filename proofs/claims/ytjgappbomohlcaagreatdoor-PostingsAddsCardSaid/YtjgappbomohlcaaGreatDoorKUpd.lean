/-
  Numbers sorted.
-/
import Derived.Sort.LotD3
import Derived.Test.YtjgappbomohlcaaGreatDoorK01
import Derived.Test.YtjgappbomohlcaaGreatDoorKUha
import Derived.Test.YtjgappbomohlcaaGreatDoorKUpa
import Derived.Test.YtjgappbomohlcaaGreatDoorKUpe
import Derived.Test.YtjgappbomohlcaaGreatDoorKUpi
import Derived.Test.YtjgappbomohlcaaGreatDoorKUcp
import Derived.Test.YtjgappbomohlcaaGreatDoorShelf
namespace Go.Proofs.YtjgappbomohlcaaGreatDoor
section
set_option linter.unusedVariables false
set_option linter.unusedSimpArgs false
open Go.RowKit Go.Sort
/-- Sorted between two places: a permutation of what was there. -/
def SrtO (w : World) (b : Nat) (tl : List Value) (a hi : Nat) (d : Array Nat) (e : Ending) (w' : World) : Prop :=
  e = .returned (.tuple #[]) ∧ ∃ d', (PermIn a hi d d' ∧ SortedIn ltN a hi d') ∧ SO w b tl d' w'
section
set_option maxHeartbeats 6400000
set_option maxRecDepth 100000
theorem pdq_any (b c n : Nat) (tl : List Value) (hz : n ≤ 1000000) : ∀ (N a hi limit : Nat) (d : Array Nat) (w : World), hi - a ≤ N → UR w b tl d → n = d.size → a ≤ hi → hi ≤ n → limit ≤ 100000 → Sort.Below ltN a hi d →
    Calls Tryz.prog 124 #[.slice (some ⟨b, 0, none⟩) n c, .int .i64 (a : Nat), .int .i64 (hi : Nat), .int .i64 (limit : Nat)] w (SrtO w b tl a hi d) := by
  intro N
  induction N using Nat.strongRecOn with
  | _ N ih =>
  intro a hi limit d w hN hu hn hab hhn hlim hB
  have IH := Lib.hid ih; clear ih
  have HK := Lib.hid (show ∀ d', PermIn a hi d d' → SortedIn ltN a hi d' → PermIn a hi d d' ∧ SortedIn ltN a hi d' from fun d' h1 h2 => ⟨h1, h2⟩)
  have HB := Lib.hid hB
  have HU := Lib.hid hu
  have hds := hn.symm
  have HN := Lib.hid hN
  have HI := Lib.hid (fun (lo hi : Nat) (dk : Array Nat) (W : World) (hs : dk.size = n) (h : UR W b tl dk) (hb : hi ≤ n) (hl : lo ≤ n) => show Calls Tryz.prog 142 #[.slice (some ⟨b, 0, none⟩) n c, .int .i64 (lo : Nat), .int .i64 (hi : Nat)] W fun e w' => e = .returned (.tuple #[]) ∧ SO W b tl (insertionSort ltN dk lo hi) w' from by subst hs; exact ins_any b c lo hi tl dk W h hb hz hl)
  have HH := Lib.hid (fun (lo hi : Nat) (dk : Array Nat) (W : World) (hs : dk.size = n) (h : UR W b tl dk) (hb : hi ≤ n) (hl : lo ≤ hi) => show Calls Tryz.prog 143 #[.slice (some ⟨b, 0, none⟩) n c, .int .i64 (lo : Nat), .int .i64 (hi : Nat)] W fun e w' => e = .returned (.tuple #[]) ∧ SO W b tl (heapSort ltN dk lo hi) w' from by subst hs; exact heap_any b c lo hi tl dk W h hb hz hl)
  have HR := Lib.hid (fun (lo hi : Nat) (dk : Array Nat) (W : World) (hs : dk.size = n) (h : UR W b tl dk) (hb : hi ≤ n) (hl : lo < hi) => show Calls Tryz.prog 146 #[.slice (some ⟨b, 0, none⟩) n c, .int .i64 (lo : Nat), .int .i64 (hi : Nat)] W fun e w' => e = .returned (.tuple #[]) ∧ SO W b tl (reverseRange dk lo hi) w' from by subst hs; exact rev_any b c lo hi tl dk W h hb hz hl)
  have HP := Lib.hid (fun (lo hi : Nat) (dk : Array Nat) (W : World) (hs : dk.size = n) (h : UR W b tl dk) (hb : hi ≤ n) (hl : lo < hi) => show Calls Tryz.prog 147 #[.slice (some ⟨b, 0, none⟩) n c, .int .i64 (lo : Nat), .int .i64 (hi : Nat)] W fun e w' => e = .returned (.bool (partialInsertionSort ltN dk lo hi).2) ∧ SO W b tl (partialInsertionSort ltN dk lo hi).1 w' from by subst hs; exact pins_any b c lo hi tl dk W h hb hz hl)
  have HA := Lib.hid (fun (lo hi pv : Nat) (dk : Array Nat) (W : World) (hs : dk.size = n) (h : UR W b tl dk) (hb : hi ≤ n) (h1 : lo ≤ pv) (h2 : pv < hi) => show Calls Tryz.prog 150 #[.slice (some ⟨b, 0, none⟩) n c, .int .i64 (lo : Nat), .int .i64 (hi : Nat), .int .i64 (pv : Nat)] W fun e w' => e = .returned (.tuple #[.int .i64 ((partition ltN dk lo hi pv).1 : Nat), .bool (partition ltN dk lo hi pv).2.1]) ∧ SO W b tl (partition ltN dk lo hi pv).2.2 w' from by subst hs; exact part_any b c lo hi pv tl dk W h hb hz h1 h2)
  have HE := Lib.hid (fun (lo hi pv : Nat) (dk : Array Nat) (W : World) (hs : dk.size = n) (h : UR W b tl dk) (hb : hi ≤ n) (h1 : lo ≤ pv) (h2 : pv < hi) => show Calls Tryz.prog 149 #[.slice (some ⟨b, 0, none⟩) n c, .int .i64 (lo : Nat), .int .i64 (hi : Nat), .int .i64 (pv : Nat)] W fun e w' => e = .returned (.int .i64 ((partitionEqual ltN dk lo hi pv).1 : Nat)) ∧ SO W b tl (partitionEqual ltN dk lo hi pv).2 w' from by subst hs; exact parteq_any b c lo hi pv tl dk W h hb hz h1 h2)
  have HL := Lib.hid (fun x y W => less_any x y W)
  clear hB hu hn hN
  go_enter Tryz.func124, Tryz.ntmps124
  go_wp2_with fail
  go_loopw [1, 2, 3, 8, 9] (fun s1 s2 s3 s8 s9 wr => ∃ (lo up lim : Nat) (wb wp : Bool) (dk : Array Nat), s1 = .int .i64 lo ∧ s2 = .int .i64 up ∧ s3 = .int .i64 lim ∧ s8 = .bool wb ∧ s9 = .bool wp ∧ a ≤ lo ∧ lo ≤ up ∧ up ≤ hi ∧ lim ≤ 100000 ∧ dk.size = n ∧ Aside (SO w b tl dk wr) ∧ Aside (Sort.Below ltN lo up dk) ∧ Aside (∀ d', PermIn lo up dk d' → SortedIn ltN lo up d' → PermIn a hi d d' ∧ SortedIn ltN a hi d')) (fun s1 s2 _ _ _ _ => (intOf s2 - intOf s1).toNat)
  case atStart => exact ⟨a, hi, limit, true, true, d, rfl, rfl, rfl, rfl, rfl, by omega, hab, by omega, hlim, hds, SO.refl HU.out, HB.out, HK.out⟩
  case round =>
    obtain ⟨lo, up, lim, wb, wp, dk, rfl, rfl, rfl, rfl, rfl, ha1, ha2, ha3, hl1, hks, S0, B0, K0⟩ := hrel
    obtain ⟨w1, h1⟩ : ∃ w1, w1 = wr := ⟨_, rfl⟩
    rw [← h1] at S0 ⊢
    clear h1
    obtain ⟨l, hl⟩ : ∃ l, l = up - lo := ⟨_, rfl⟩
    have q0 : (up : Int) - (lo : Int) = (l : Int) := by omega
    have hle : lo + l = up := by omega
    clear hl
    by_cases h12 : l ≤ 12
    · have k1 : (l : Int) ≤ 12 := by omega
      have hins := insertionSort_holds (lt := ltN) swoN dk lo up ha2 (by omega)
      have HFIN := Lib.hid (K0.out _ hins.1 hins.2)
      clear hins
      go_wp2_with (first
        | (go_at_call 142; refine (HI.out lo up dk w1 hks S0.out.1 (by omega) (by omega)).mono ?_; rintro e w2 ⟨rfl, hs⟩; have HS2 := Lib.hid (S0.out.trans hs); clear hs)
        | fail)
      refine bodyPost_ret (results_none rfl _ _ _) rfl ?_
      exact ⟨rfl, _, HFIN.out, HS2.out⟩
    · have k1 : ¬ (l : Int) ≤ 12 := by omega
      by_cases hl0 : lim = 0
      · have k2 : ((lim : Int) == 0) = true := by rw [beq_iff_eq]; omega
        have hhp := heapSort_holds (lt := ltN) swoN dk lo up ha2 (by omega)
        have HFIN := Lib.hid (K0.out _ hhp.1 hhp.2)
        clear hhp
        have HL0 := Lib.hid hl0
        clear hl0
        go_wp2_with (first
          | (go_at_call 143; refine (HH.out lo up dk w1 hks S0.out.1 (by omega) (by omega)).mono ?_; rintro e w2 ⟨rfl, hs⟩; have HS2 := Lib.hid (S0.out.trans hs); clear hs)
          | fail)
        refine bodyPost_ret (results_none rfl _ _ _) rfl ?_
        exact ⟨rfl, _, HFIN.out, HS2.out⟩
      · have k2 : ((lim : Int) == 0) = false := by rw [beq_eq_false_iff_ne]; omega
        go_upto_if 35 with (fail)
        go_cut [3] (fun s3 wx => ∃ (lm : Nat) (d1 : Array Nat), s3 = .int .i64 lm ∧ lm ≤ 100000 ∧ Aside (PermIn lo up dk d1) ∧ Aside (SO w b tl d1 wx))
        case first =>
          cases wb with
          | true =>
            go_wp2_with fail
            go_meet
            exact ⟨lim, dk, rfl, hl1, permIn_refl dk lo up, S0.out⟩
          | false =>
            have q1 : (lim : Int) - 1 = ((lim - 1 : Nat) : Int) := by omega
            have hbk := brk_any b c lo up n tl dk w1 S0.out.1 hks.symm (by omega) hz (by omega)
            have HBK := Lib.hid hbk; clear hbk
            go_wp2_with (first
              | (go_at_call 144; refine HBK.out.mono ?_; rintro e w2 ⟨rfl, d1, hp, hs⟩; have HS2 := Lib.hid (S0.out.trans hs); have HP2 := Lib.hid hp; clear hs hp)
              | fail)
            go_meet
            exact ⟨lim - 1, d1, by go_num, by omega, HP2.out, HS2.out⟩
        case rest =>
          obtain ⟨lm, d1, rfl, hlm, P1, S1⟩ := hcut
          obtain ⟨w2, h2⟩ : ∃ w2, w2 = wc := ⟨_, rfl⟩
          rw [← h2] at S1 ⊢
          clear h2 S0
          have hd1 : d1.size = n := by rw [P1.out.1]; exact hks
          have hch := choose_any b c lo up n tl d1 w2 S1.out.1 hd1.symm (by omega) hz (by omega)
          have HCH := Lib.hid hch; clear hch
          go_upto_if 50 with (first
            | (go_at_call 145; refine HCH.out.mono ?_; rintro e w3 ⟨m, k, rfl, hm1, hm2, hb3⟩; have HS3 := Lib.hid (show SO w b tl d1 w3 from ⟨S1.out.1.moved (hb3.block b (blk_lt S1.out.1)), S1.out.2.trans (Mv.of_below hb3 _) (fun _ _ e => e)⟩); clear hb3)
            | fail)
          go_cut [11, 12] (fun s11 s12 wx => ∃ (pv : Nat) (k : Int) (d2 : Array Nat), s11 = .int .i64 pv ∧ s12 = .int .i64 k ∧ lo ≤ pv ∧ pv < up ∧ Aside (PermIn lo up dk d2) ∧ Aside (SO w b tl d2 wx))
          case first =>
            by_cases hk2 : k = 2
            · have k3 : (k == 2) = true := by rw [beq_iff_eq]; exact hk2
              have q1 : (up : Int) - 1 = ((up - 1 : Nat) : Int) := by omega
              have q2 : (m : Int) - (lo : Int) = ((m - lo : Nat) : Int) := by omega
              have q3 : ((up - 1 : Nat) : Int) - ((m - lo : Nat) : Int) = ((up - 1 - (m - lo) : Nat) : Int) := by omega
              obtain ⟨m1, hm1'⟩ : ∃ m1, m1 = up - 1 := ⟨_, rfl⟩
              obtain ⟨m2, hm2'⟩ : ∃ m2, m2 = m - lo := ⟨_, rfl⟩
              obtain ⟨m3, hm3'⟩ : ∃ m3, m3 = m1 - m2 := ⟨_, rfl⟩
              rw [← hm1'] at q1 q3
              rw [← hm2'] at q2 q3
              rw [← hm3'] at q3
              have hm4 : lo ≤ m3 ∧ m3 < up := by omega
              have HM4 := Lib.hid hm4
              have HK2 := Lib.hid hk2
              clear hm1' hm2' hm3' hk2 hm4
              have hr := HR.out lo up d1 w3 hd1 HS3.out.1 (by omega) (by omega)
              have HRR := Lib.hid hr; clear hr
              go_wp2_with (first
                | (go_at_call 146; refine HRR.out.mono ?_; rintro e w4 ⟨rfl, hs⟩; have HS4 := Lib.hid (HS3.out.trans hs); clear hs)
                | fail)
              go_meet
              exact ⟨m3, 1, reverseRange d1 lo up, rfl, rfl, HM4.out.1, HM4.out.2, permIn_trans _ _ _ _ _ P1.out (reverseRange_holds d1 lo up ha2 (by omega)), HS4.out⟩
            · have k3 : (k == 2) = false := by rw [beq_eq_false_iff_ne]; exact hk2
              go_wp2_with fail
              go_meet
              exact ⟨m, k, d1, rfl, rfl, hm1, hm2, P1.out, HS3.out⟩
          case rest =>
            obtain ⟨pv, k, d2, rfl, rfl, hp1, hp2, P2, S2⟩ := hcut
            obtain ⟨w4, h4⟩ : ∃ w4, w4 = wc := ⟨_, rfl⟩
            rw [← h4] at S2 ⊢
            clear h4 HS3 S1 P1 HCH
            have hd2 : d2.size = n := by rw [P2.out.1]; exact hks
            obtain ⟨kb, hkb⟩ : ∃ kb, kb = (k == 1) := ⟨_, rfl⟩
            have HKB := Lib.hid hkb
            have hB2 : Sort.Below ltN lo up d2 := B0.out.perm (by omega) P2.out
            obtain ⟨q, hq⟩ : ∃ q : Bool, q = (wb && wp && (k == 1)) := ⟨_, rfl⟩
            have HQ := Lib.hid hq; clear hq hkb HKB
            go_upto_region 15 with (fail)
            go_cut [68] (fun s68 wx => s68 = .bool q ∧ wx = w4)
            case first =>
              have hq := HQ.out
              cases wb with
              | false =>
                have hq2 : q = false := by rw [hq]; rfl
                clear hq HQ
                subst hq2
                go_wp2_with fail
                go_meet
                exact ⟨rfl, rfl⟩
              | true =>
                cases wp with
                | false =>
                  have hq2 : q = false := by rw [hq]; rfl
                  clear hq HQ
                  subst hq2
                  go_wp2_with fail
                  go_meet
                  exact ⟨rfl, rfl⟩
                | true =>
                  by_cases hk1 : k = 1
                  · have k4 : (k == 1) = true := by rw [beq_iff_eq]; exact hk1
                    have hq2 : q = true := by rw [hq, k4]; rfl
                    clear hq HQ
                    subst hq2
                    have HK1 := Lib.hid hk1; clear hk1
                    go_wp2_with fail
                    go_meet
                    exact ⟨rfl, rfl⟩
                  · have k4 : (k == 1) = false := by rw [beq_eq_false_iff_ne]; exact hk1
                    have hq2 : q = false := by rw [hq, k4]; rfl
                    clear hq HQ
                    subst hq2
                    go_wp2_with fail
                    go_meet
                    exact ⟨rfl, rfl⟩
            case rest =>
            obtain ⟨rfl, hwc⟩ := hcut
            rw [hwc]
            clear hwc HQ
            go_upto_if 68 with (fail)
            go_cut [] (fun wx => ∃ d3 : Array Nat, Aside (PermIn lo up dk d3) ∧ Aside (SO w b tl d3 wx))
            case first =>
              have hpi := partialInsertionSort_holds (lt := ltN) swoN d2 lo up (by omega) (by omega) hB2
              have hPp := permIn_trans _ _ _ _ _ P2.out hpi.1
              have hKk := fun h => K0.out _ hPp (hpi.2 h)
              have hpc := HP.out lo up d2 w4 hd2 S2.out.1 (by omega) (by omega)
              generalize partialInsertionSort ltN d2 lo up = X at hpc hPp hKk
              obtain ⟨X1, X2⟩ := X
              simp only at hpc hPp hKk
              have HPC := Lib.hid hpc; have HPP := Lib.hid hPp; have HKK := Lib.hid hKk
              clear hpc hPp hKk hpi hB2
              cases q with
              | false =>
                go_wp2_with fail
                go_meet
                exact ⟨d2, P2.out, S2.out⟩
              | true =>
                cases X2 with
                | false =>
                  go_wp2_with (first
                    | (go_at_call 147; refine HPC.out.mono ?_; rintro e w5 ⟨rfl, hs⟩; have HS5 := Lib.hid (S2.out.trans hs); clear hs)
                    | fail)
                  go_meet
                  exact ⟨X1, HPP.out, HS5.out⟩
                | true =>
                  go_wp2_with (first
                    | (go_at_call 147; refine HPC.out.mono ?_; rintro e w5 ⟨rfl, hs⟩; have HS5 := Lib.hid (S2.out.trans hs); clear hs)
                    | fail)
                  refine bodyPost_ret (results_none rfl _ _ _) rfl ?_
                  exact ⟨rfl, X1, HKK.out (by simp), HS5.out⟩
            case rest =>
              obtain ⟨d3, P3, S3⟩ := hcut
              obtain ⟨w5, h5⟩ : ∃ w5, w5 = wc := ⟨_, rfl⟩
              rw [← h5] at S3 ⊢
              clear h5 S2 P2 hB2
              have hd3 : d3.size = n := by rw [P3.out.1]; exact hks
              have hB3 : Sort.Below ltN lo up d3 := B0.out.perm (by omega) P3.out
              have HB3 := Lib.hid hB3; clear hB3
              obtain ⟨t, ht⟩ : ∃ t : Bool, t = (decide (0 < lo) && !ltN d3[lo - 1]! d3[pv]!) := ⟨_, rfl⟩
              have HT := Lib.hid ht; clear ht
              go_upto_region 17 with (fail)
              go_cut [87] (fun s87 wx => s87 = .bool t ∧ ∃ m, wx = w5.drewN m)
              case first =>
                have hfrz := S3.out.1.free
                have ht := HT.out
                by_cases hg : 0 < lo
                · rw [decide_eq_true hg, Bool.true_and] at ht
                  have gi : (0 : Int) < (lo : Int) := by omega
                  have gd : decide (0 < lo) = true := decide_eq_true hg
                  obtain ⟨lm1, hlm1⟩ : ∃ lm1, lm1 = lo - 1 := ⟨_, rfl⟩
                  have y1 : (lo : Int) - 1 = (lm1 : Int) := by omega
                  have y2 : IntKind.i64.wrap (lm1 : Int) = (lm1 : Int) := IntWalk.i64_in _ (by omega)
                  rw [← hlm1] at ht
                  have b1 : (lm1 : Int) < (n : Int) := by omega
                  have b2 : (pv : Int) < (n : Int) := by omega
                  have z1 : (0 : Int) ≤ (lm1 : Int) := by omega
                  have z2 : (0 : Int) ≤ (pv : Int) := by omega
                  have r1 := S3.out.1.at (i := lm1) (by omega)
                  have r2 := S3.out.1.at (i := pv) (by omega)
                  clear hlm1
                  have hLL := HL.out d3[lm1]! d3[pv]!
                  obtain ⟨x1, hx⟩ : ∃ x1, x1 = d3[lm1]! := ⟨_, rfl⟩
                  obtain ⟨y1', hy⟩ : ∃ y1', y1' = d3[pv]! := ⟨_, rfl⟩
                  rw [← hx] at r1 hLL ht
                  rw [← hy] at r2 hLL ht
                  clear hx hy HT
                  obtain ⟨u, hu⟩ : ∃ u, u = ltN x1 y1' := ⟨_, rfl⟩
                  rw [← hu] at hLL ht
                  have HLL := Lib.hid hLL; clear hLL hu
                  subst ht
                  go_quiet (first | ((go_at_call 148; with_reducible exact Calls.quiet_of_same (HLL.out _))))
                  go_wp2_with fail
                  go_meet
                  exact ⟨rfl, _, rfl⟩
                · rw [decide_eq_false hg, Bool.false_and] at ht
                  have gi : ¬ (0 : Int) < (lo : Int) := by omega
                  have gd : decide (0 < lo) = false := decide_eq_false hg
                  subst ht
                  go_quiet (fail)
                  go_wp2_with fail
                  go_meet
                  exact ⟨rfl, _, rfl⟩
              case rest =>
                obtain ⟨rfl, m, hwm⟩ := hcut
                have S4 : Aside (SO w b tl d3 wc) := by rw [hwm]; exact S3.out.drewN m
                clear hwm S3
                obtain ⟨w6, h6⟩ : ∃ w6, w6 = wc := ⟨_, rfl⟩
                rw [← h6] at S4 ⊢
                clear h6
                cases t with
                | true =>
                  have hg : 0 < lo ∧ ltN d3[lo - 1]! d3[pv]! = false := by have h := HT.out.symm; rw [Bool.and_eq_true, decide_eq_true_eq, Bool.not_eq_true'] at h; exact h
                  have hpc := HE.out lo up pv d3 w6 hd3 S4.out.1 (by omega) (by omega) (by omega)
                  obtain ⟨mid, hmid⟩ : ∃ mid, mid = (partitionEqual ltN d3 lo up pv).1 := ⟨_, rfl⟩
                  obtain ⟨d4, hd4⟩ : ∃ d4, d4 = (partitionEqual ltN d3 lo up pv).2 := ⟨_, rfl⟩
                  have hx : partitionEqual ltN d3 lo up pv = (mid, d4) := by rw [hmid, hd4]
                  rw [← hmid, ← hd4] at hpc
                  obtain ⟨g1, g2, g3, g4, g5⟩ := round_eq (lt := ltN) swoN (partitionEqual_holds ltN) hg.1 hp1 hp2 (by omega) HB3.out hg.2 hx
                  have HK5 := Lib.hid (show ∀ d', PermIn mid up d4 d' → SortedIn ltN mid up d' → PermIn a hi d d' ∧ SortedIn ltN a hi d' from fun d' q1 q2 => by
                    obtain ⟨r1, r2⟩ := g5 d' q1 q2
                    exact K0.out d' (permIn_trans _ _ _ _ _ P3.out r1) r2)
                  have HG4 := Lib.hid g4
                  have hd4s : d4.size = n := g3.trans hd3
                  have HPC := Lib.hid hpc
                  clear hpc hmid hd4 hx g5 g4 g3 hg
                  go_wp2_with (first
                    | (go_at_call 149; refine HPC.out.mono ?_; rintro e w7 ⟨rfl, hs⟩; have HS7 := Lib.hid (S4.out.trans hs); clear hs)
                    | fail)
                  go_roundw
                  case rel => exact ⟨mid, up, lm, wb, wp, d4, rfl, rfl, rfl, rfl, rfl, by omega, by omega, by omega, hlm, hd4s, (show Aside _ from HS7.out), (show Aside _ from HG4.out), (show Aside _ from HK5.out)⟩
                  case measure => simp [intOf]; omega
                | false =>
                  have hpc := HA.out lo up pv d3 w6 hd3 S4.out.1 (by omega) (by omega) (by omega)
                  obtain ⟨mid, hmid⟩ : ∃ mid, mid = (partition ltN d3 lo up pv).1 := ⟨_, rfl⟩
                  obtain ⟨ap, hap⟩ : ∃ ap, ap = (partition ltN d3 lo up pv).2.1 := ⟨_, rfl⟩
                  obtain ⟨d4, hd4⟩ : ∃ d4, d4 = (partition ltN d3 lo up pv).2.2 := ⟨_, rfl⟩
                  have hx : partition ltN d3 lo up pv = (mid, ap, d4) := by rw [hmid, hap, hd4]
                  rw [← hmid, ← hap, ← hd4] at hpc
                  obtain ⟨g1, g2, g3, g4, g5, g6, g7⟩ := round_part (lt := ltN) swoN (partition_holds ltN) hp1 hp2 (by omega) HB3.out hx
                  have hd4s : d4.size = n := g3.trans hd3
                  have HG6 := Lib.hid g6; have HG7 := Lib.hid g7; have HG4 := Lib.hid g4; have HG5 := Lib.hid g5
                  have HPC := Lib.hid hpc
                  clear hpc hmid hap hd4 hx g6 g7 g4 g5 g3
                  obtain ⟨ll, hll⟩ : ∃ ll, ll = mid - lo := ⟨_, rfl⟩
                  obtain ⟨rl, hrl⟩ : ∃ rl, rl = up - mid := ⟨_, rfl⟩
                  have q3 : (mid : Int) - (lo : Int) = (ll : Int) := by omega
                  have q4 : (up : Int) - (mid : Int) = (rl : Int) := by omega
                  have q5 : (mid : Int) + 1 = ((mid + 1 : Nat) : Int) := by omega
                  obtain ⟨mp, hmp⟩ : ∃ mp, mp = mid + 1 := ⟨_, rfl⟩
                  rw [← hmp] at q5
                  have hl1 : lo + ll = mid := by omega
                  have hl2 : mid + rl = up := by omega
                  have hl3 : mp = mid + 1 := hmp
                  have HMP := Lib.hid hmp
                  clear hll hrl hmp hl3
                  have hNl := HN.out
                  by_cases hlr : ll < rl
                  · have k5 : (ll : Int) < (rl : Int) := by omega
                    have hrec := IH.out (mid - lo) (by have := HMP.out; omega) lo mid lm d4
                    go_wp2_with (first
                      | (go_at_call 150; refine HPC.out.mono ?_; rintro e w7 ⟨rfl, hs⟩; have HS7 := Lib.hid (S4.out.trans hs); clear hs)
                      | (go_at_call 124; refine (IH.out (mid - lo) (by omega) lo mid lm d4 w7 (Nat.le_refl _) HS7.out.1 hd4s.symm g1 (by omega) hlm HG4.out).mono ?_; rintro e w8 ⟨rfl, d5, ⟨hp5, hs5⟩, hs⟩; have HS8 := Lib.hid (HS7.out.trans hs); have HP5 := Lib.hid hp5; have HQ5 := Lib.hid hs5; clear hs hp5 hs5)
                      | fail)
                    have hb5 := (HG6.out d5 HP5.out HQ5.out)
                    have HB5 := Lib.hid hb5.1
                    have HK5 := Lib.hid (show ∀ d', PermIn (mid + 1) up d5 d' → SortedIn ltN (mid + 1) up d' → PermIn a hi d d' ∧ SortedIn ltN a hi d' from fun d' q1 q2 => by
                      obtain ⟨r1, r2⟩ := hb5.2 d' q1 q2
                      exact K0.out d' (permIn_trans _ _ _ _ _ P3.out r1) r2)
                    have hd5 : d5.size = n := HP5.out.1.trans hd4s
                    clear hb5
                    go_roundw
                    case rel => exact ⟨mp, up, lm, _, ap, d5, rfl, rfl, rfl, rfl, rfl, by have := HMP.out; omega, by have := HMP.out; omega, by omega, hlm, hd5, (show Aside _ from HS8.out), (show Aside _ from by rw [HMP.out]; exact HB5.out), (show Aside _ from by rw [HMP.out]; exact HK5.out)⟩
                    case measure => simp [intOf]; have := HMP.out; omega
                  · have k5 : ¬ (ll : Int) < (rl : Int) := by omega
                    go_wp2_with (first
                      | (go_at_call 150; refine HPC.out.mono ?_; rintro e w7 ⟨rfl, hs⟩; have HS7 := Lib.hid (S4.out.trans hs); clear hs)
                      | (go_at_call 124; refine (IH.out (up - mp) (by have := HMP.out; omega) mp up lm d4 w7 (Nat.le_refl _) HS7.out.1 hd4s.symm (by have := HMP.out; omega) (by omega) hlm (by rw [HMP.out]; exact HG5.out)).mono ?_; rintro e w8 ⟨rfl, d5, ⟨hp5, hs5⟩, hs⟩; have HS8 := Lib.hid (HS7.out.trans hs); have HP5 := Lib.hid hp5; have HQ5 := Lib.hid hs5; clear hs hp5 hs5)
                      | fail)
                    have hp5 := HP5.out
                    have hq5 := HQ5.out
                    rw [HMP.out] at hp5 hq5
                    have hb5 := (HG7.out d5 hp5 hq5)
                    have HB5 := Lib.hid hb5.1
                    have HK5 := Lib.hid (show ∀ d', PermIn lo mid d5 d' → SortedIn ltN lo mid d' → PermIn a hi d d' ∧ SortedIn ltN a hi d' from fun d' q1 q2 => by
                      obtain ⟨r1, r2⟩ := hb5.2 d' q1 q2
                      exact K0.out d' (permIn_trans _ _ _ _ _ P3.out r1) r2)
                    have hd5 : d5.size = n := hp5.1.trans hd4s
                    clear hb5 hp5 hq5
                    go_roundw
                    case rel => exact ⟨lo, mid, lm, _, ap, d5, rfl, rfl, rfl, rfl, rfl, by omega, by omega, by omega, hlm, hd5, (show Aside _ from HS8.out), (show Aside _ from HB5.out), (show Aside _ from HK5.out)⟩
                    case measure => simp [intOf]; omega
end
end
end Go.Proofs.YtjgappbomohlcaaGreatDoor
