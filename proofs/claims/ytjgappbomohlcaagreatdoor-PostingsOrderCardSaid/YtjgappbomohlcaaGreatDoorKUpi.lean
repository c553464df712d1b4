/-
  Numbers sorted by insertion, in few steps, if that is enough.
-/
import Derived.Sort.LotA
import Derived.Deep.DeepCutAuto
import Derived.Test.YtjgappbomohlcaaGreatDoorK01
namespace Go.Proofs.YtjgappbomohlcaaGreatDoor
section
set_option linter.unusedVariables false
set_option linter.unusedSimpArgs false
open Go.RowKit Go.Sort
theorem shiftDown_size : ∀ (j : Nat) (d : Array Nat), (shiftDown ltN j d).size = d.size
  | 0, d => rfl
  | j + 1, d => by
    rw [shiftDown]
    split
    · rfl
    · rw [shiftDown_size j, size_swpN]
theorem shiftUp_size (b : Nat) : ∀ (k j : Nat) (d : Array Nat), b - j ≤ k → (shiftUp ltN b j d).size = d.size := by
  intro k
  induction k with
  | zero => intro j d h; rw [shiftUp, if_neg (by omega)]
  | succ k ih =>
    intro j d h
    rw [shiftUp]
    split
    · split
      · rfl
      · rw [ih _ _ (by omega), size_swpN]
    · rfl
section
set_option maxHeartbeats 6400000
set_option maxRecDepth 100000
theorem pins_any (b c a hi : Nat) (tl : List Value) (d : Array Nat) (w : World) (h : UR w b tl d) (hb : hi ≤ d.size) (hz : d.size ≤ 1000000) (hab : a < hi) :
    Calls Tryz.prog 147 #[.slice (some ⟨b, 0, none⟩) d.size c, .int .i64 (a : Nat), .int .i64 (hi : Nat)] w fun e w' =>
      e = .returned (.bool (partialInsertionSort ltN d a hi).2) ∧ SO w b tl (partialInsertionSort ltN d a hi).1 w' := by
  obtain ⟨n, hn⟩ : ∃ n, n = d.size := ⟨_, rfl⟩
  rw [← hn] at hb hz ⊢
  have H := Lib.hid h; clear h
  have HN := Lib.hid hn
  clear hn
  obtain ⟨R, hR⟩ : ∃ R, R = partialInsertionSort ltN d a hi := ⟨_, rfl⟩
  rw [← hR]
  unfold partialInsertionSort at hR
  have HR := Lib.hid hR; clear hR
  have HL := Lib.hid (fun x y W => less_any x y W)
  go_enter Tryz.func147, Tryz.ntmps147
  go_wp2_with fail
  go_loopw [8, 7] (fun s8 s7 wr => ∃ (k p : Nat) (dk : Array Nat), s8 = .int .i64 (5 - (k : Int)) ∧ s7 = .int .i64 ((p : Int) + 1) ∧ k ≤ 5 ∧ a ≤ p ∧ p < hi ∧ dk.size = n ∧ Aside (SO w b tl dk wr) ∧ Aside (partialIns ltN a hi k (p + 1) dk = R)) (fun s8 _ _ => (5 - intOf s8).toNat)
  case atStart => exact ⟨5, a, d, rfl, by go_num, by omega, by omega, by omega, HN.out.symm, SO.refl H.out, HR.out.symm⟩
  case round =>
    obtain ⟨k, p0, dk, rfl, rfl, hk, hp0, hp1, hds, S1, E1⟩ := hrel
    cases k with
    | zero =>
      have hE := E1.out
      rw [partialIns] at hE
      have HE := Lib.hid hE; clear hE
      have HF := Lib.hid S1.out
      have k0 : ¬ (5 - ((0 : Nat) : Int)) < 5 := by omega
      go_wp2
      go_ret
      rw [← HE.out]
      exact ⟨rfl, HF.out⟩
    | succ k =>
      have k0 : (5 - ((k + 1 : Nat) : Int)) < 5 := by omega
      have k00 : (5 - ((k : Int) + 1)) < 5 := by omega
      obtain ⟨I, hI⟩ : ∃ I, scanSorted ltN dk hi (p0 + 1) = I := ⟨_, rfl⟩
      have HI := Lib.hid hI; clear hI
      have HI2 := HI
      obtain ⟨w1, h1⟩ : ∃ w1, w1 = wr := ⟨_, rfl⟩
      rw [← h1] at S1 ⊢
      clear h1
      go_wp2_with fail
      go_loopw [7] (fun s7 wr => ∃ p : Nat, s7 = .int .i64 ((p : Int) + 1) ∧ a ≤ p ∧ p < hi ∧ Aside (SO w b tl dk wr) ∧ Aside (scanSorted ltN dk hi (p + 1) = I)) (fun s7 _ => n + 1 - (intOf s7).toNat)
      case atStart => exact ⟨p0, rfl, hp0, hp1, S1.out, HI.out⟩
      case round =>
        obtain ⟨p, rfl, hp2, hp3, S2, E2⟩ := hrel
        obtain ⟨w2, h2⟩ : ∃ w2, w2 = wr := ⟨_, rfl⟩
        rw [← h2] at S2 ⊢
        clear h2
        obtain ⟨q, hq⟩ : ∃ q : Bool, q = (decide (p + 1 < hi) && !ltN dk[p + 1]! dk[p]!) := ⟨_, rfl⟩
        have HQ := Lib.hid hq; clear hq
        go_upto_region 5 with (fail)
        go_cut [32] (fun s32 wx => s32 = .bool q ∧ ∃ m, wx = w2.drewN m)
        case first =>
          have hfrz := S2.out.1.free
          have hq := HQ.out
          by_cases hg : p + 1 < hi
          · rw [decide_eq_true hg, Bool.true_and] at hq
            have gi : (p : Int) + 1 < (hi : Int) := by omega
            have gd : decide (p + 1 < hi) = true := decide_eq_true hg
            have r1 := S2.out.1.at (i := p + 1) (by omega)
            have r2 := S2.out.1.at (i := p) (by omega)
            have b1 : (p : Int) + 1 < (n : Int) := by omega
            have b2 : (p : Int) < (n : Int) := by omega
            have z1 : (0 : Int) ≤ (p : Int) + 1 := by omega
            have z2 : (0 : Int) ≤ (p : Int) := by omega
            have y1 : (p : Int) + 1 - 1 = (p : Int) := by omega
            have y2 : IntKind.i64.wrap (p : Int) = (p : Int) := IntWalk.i64_in _ (by omega)
            have hLL := HL.out dk[p + 1]! dk[p]!
            obtain ⟨x1, hx⟩ : ∃ x1, x1 = dk[p + 1]! := ⟨_, rfl⟩
            obtain ⟨y1, hy⟩ : ∃ y1, y1 = dk[p]! := ⟨_, rfl⟩
            rw [← hx] at r1 hLL hq
            rw [← hy] at r2 hLL hq
            clear hx hy HQ
            obtain ⟨t, ht⟩ : ∃ t, t = ltN x1 y1 := ⟨_, rfl⟩
            rw [← ht] at hLL hq
            have HLL := Lib.hid hLL; clear hLL ht
            subst hq
            go_quiet (first | ((go_at_call 148; with_reducible exact Calls.quiet_of_same (HLL.out _))))
            go_wp2_with fail
            go_meet
            exact ⟨rfl, _, rfl⟩
          · rw [decide_eq_false hg, Bool.false_and] at hq
            have gi : ¬ (p : Int) + 1 < (hi : Int) := by omega
            have gd : decide (p + 1 < hi) = false := decide_eq_false hg
            subst hq
            go_quiet (fail)
            go_wp2_with fail
            go_meet
            exact ⟨rfl, _, rfl⟩
        case rest =>
          obtain ⟨rfl, m, hwm⟩ := hcut
          have S2d : Aside (SO w b tl dk wc) := by rw [hwm]; exact S2.out.drewN m
          clear hwm S2
          obtain ⟨wx2, hwc⟩ : ∃ wx2, wx2 = wc := ⟨_, rfl⟩
          rw [← hwc] at S2d ⊢
          clear hwc
          cases q with
          | true =>
            have hg : p + 1 < hi ∧ (!ltN dk[p + 1]! dk[p]!) = true := by have h := HQ.out.symm; rw [Bool.and_eq_true, decide_eq_true_eq] at h; exact h
            obtain ⟨hg1, hg2⟩ := hg
            have hE := E2.out
            rw [scanSorted, if_pos (by rw [Bool.and_eq_true, decide_eq_true_eq]; exact ⟨hg1, hg2⟩)] at hE
            have HE := Lib.hid hE; clear hE hg2
            go_wp2
            go_roundw
            case rel => exact ⟨p + 1, by go_num, by omega, by omega, (show Aside _ from S2d.out), (show Aside _ from HE.out)⟩
            case measure => simp [intOf]; omega
          | false =>
            have hg : ¬ (p + 1 < hi ∧ (!ltN dk[p + 1]! dk[p]!) = true) := fun h => by have h2 := HQ.out; rw [decide_eq_true h.1, h.2] at h2; cases h2
            have hII : p + 1 = I := by
              have hE := E2.out
              rw [scanSorted, if_neg (by rw [Bool.and_eq_true, decide_eq_true_eq]; exact hg)] at hE
              exact hE
            clear hg E2
            have hE := E1.out
            rw [partialIns] at hE
            simp only [HI2.out] at hE
            rw [← hII] at hE
            rw [← hII] at HI2
            clear hII
            by_cases hib : p + 1 = hi
            · rw [if_pos hib] at hE
              have k1 : (p : Int) + 1 = (hi : Int) := by omega
              have k1b : ((p : Int) + 1 == (hi : Int)) = true := by rw [beq_iff_eq]; exact k1
              have HE := Lib.hid hE; clear hE E1
              have HIB := Lib.hid hib; clear hib
              have HF := Lib.hid S2d.out
              clear k1
              go_wp2
              go_ret
              rw [← HE.out]
              exact ⟨rfl, HF.out⟩
            · rw [if_neg hib] at hE
              have k1 : ¬ (p : Int) + 1 = (hi : Int) := by omega
              by_cases h50 : hi - a < 50
              · rw [if_pos h50] at hE
                have k2 : (hi : Int) - (a : Int) < 50 := by omega
                have HE := Lib.hid hE; clear hE E1
                have HF := Lib.hid S2d.out
                go_wp2
                go_ret
                rw [← HE.out]
                exact ⟨rfl, HF.out⟩
              · rw [if_neg h50] at hE
                have k2 : ¬ (hi : Int) - (a : Int) < 50 := by omega
                have hpi : p + 1 < hi := by omega
                obtain ⟨D1, hD1⟩ : ∃ D1, D1 = swp dk (p + 1) p := ⟨_, rfl⟩
                rw [show p + 1 - 1 = p from rfl, ← hD1] at hE
                obtain ⟨D2, hD2⟩ : ∃ D2, D2 = (if p + 1 - a ≥ 2 then shiftDown ltN p D1 else D1) := ⟨_, rfl⟩
                rw [← hD2] at hE
                obtain ⟨D3, hD3⟩ : ∃ D3, D3 = (if hi - (p + 1) ≥ 2 then shiftUp ltN hi (p + 1 + 1) D2 else D2) := ⟨_, rfl⟩
                rw [← hD3] at hE
                have hd1 : D1.size = n := by rw [hD1, size_swpN]; exact hds
                have hd2 : D2.size = n := by rw [hD2]; split; · rw [shiftDown_size]; exact hd1
                                             · exact hd1
                have hd3 : D3.size = n := by rw [hD3]; split; · rw [shiftUp_size _ _ _ _ (Nat.le_refl _)]; exact hd2
                                             · exact hd2
                have HE := Lib.hid hE; have HD1 := Lib.hid hD1; have HD2 := Lib.hid hD2; have HD3 := Lib.hid hD3
                clear hE E1 hD1 hD2 hD3
                go_wp2_with fail
                go_upto_region 11 with (fail)
                go_cut [] (fun wx => Aside (SO w b tl D1 wx))
                case first =>
                  have hfrz := S2d.out.1.free
                  have r1 := S2d.out.1.at (i := p + 1) (by omega)
                  have r2 := S2d.out.1.at (i := p) (by omega)
                  have hsw := S2d.out.swp (i := p + 1) (j := p)
                  have b1 : (p : Int) + 1 < (n : Int) := by omega
                  have b2 : (p : Int) < (n : Int) := by omega
                  have z1 : (0 : Int) ≤ (p : Int) + 1 := by omega
                  have z2 : (0 : Int) ≤ (p : Int) := by omega
                  have y1 : (p : Int) + 1 - 1 = (p : Int) := by omega
                  obtain ⟨x, hx⟩ : ∃ x, x = dk[p + 1]! := ⟨_, rfl⟩
                  obtain ⟨y, hy⟩ : ∃ y, y = dk[p]! := ⟨_, rfl⟩
                  rw [← hx] at r1 hsw
                  rw [← hy] at r2 hsw
                  have HSW := Lib.hid hsw; clear hsw hx hy
                  go_region
                  go_wp2_with fail
                  go_meet
                  rw [HD1.out]
                  exact HSW.out _ (by omega) (by omega)
                case rest =>
                  have S3 : Aside (SO w b tl D1 wc) := hcut
                  clear hcut S2d
                  obtain ⟨w3, hw3⟩ : ∃ w3, w3 = wc := ⟨_, rfl⟩
                  rw [← hw3] at S3 ⊢
                  clear hw3
                  go_upto_if 61 with (fail)
                  go_cut [] (fun wx => Aside (SO w b tl D2 wx))
                  case first =>
                    by_cases h2 : p + 1 - a ≥ 2
                    · have k3 : (2 : Int) ≤ (p : Int) + 1 - (a : Int) := by omega
                      have hD := HD2.out
                      rw [if_pos h2] at hD
                      have HDD := Lib.hid hD; clear hD
                      have y1 : (p : Int) + 1 - 1 = (p : Int) := by omega
                      go_wp2_with fail
                      go_loopw [9] (fun s9 wr => ∃ (j : Nat) (dj : Array Nat), s9 = .int .i64 j ∧ j < n ∧ dj.size = n ∧ Aside (SO w b tl dj wr) ∧ Aside (shiftDown ltN j dj = D2)) (fun s9 _ => (intOf s9).toNat)
                      case atStart => exact ⟨p, D1, by go_num, by omega, hd1, S3.out, HDD.out.symm⟩
                      case round =>
                        obtain ⟨j, dj, rfl, hj1, hjs, SJ, EJ⟩ := hrel
                        obtain ⟨wj, hwj⟩ : ∃ wj, wj = wr := ⟨_, rfl⟩
                        rw [← hwj] at SJ ⊢
                        clear hwj
                        cases j with
                        | zero =>
                          have hE := EJ.out
                          rw [shiftDown] at hE
                          have HF := Lib.hid SJ.out
                          rw [hE] at HF
                          go_wp2_with fail
                          go_meet
                          exact HF.out
                        | succ p =>
                          have k1 : (1 : Int) ≤ ((p + 1 : Nat) : Int) := by omega
                          have hE := EJ.out
                          rw [shiftDown] at hE
                          have HE := Lib.hid hE; clear hE EJ
                          go_wp2_with fail
                          obtain ⟨q, hq⟩ : ∃ q : Bool, q = (!ltN dj[p + 1]! dj[p]!) := ⟨_, rfl⟩
                          have HQ := Lib.hid hq; clear hq
                          go_upto_region 16 with (fail)
                          go_cut [78] (fun s78 wx => s78 = .bool q ∧ ∃ m, wx = wj.drewN m)
                          case first =>
                            have hfrz := SJ.out.1.free
                            have hq := HQ.out
                            have r1 := SJ.out.1.at (i := p + 1) (by omega)
                            have r2 := SJ.out.1.at (i := p) (by omega)
                            have b1 : (p : Int) + 1 < (n : Int) := by omega
                            have b2 : (p : Int) < (n : Int) := by omega
                            have z1 : (0 : Int) ≤ (p : Int) + 1 := by omega
                            have z2 : (0 : Int) ≤ (p : Int) := by omega
                            have y1 : (p : Int) + 1 - 1 = (p : Int) := by omega
                            have y2 : IntKind.i64.wrap (p : Int) = (p : Int) := IntWalk.i64_in _ (by omega)
                            have hLL := HL.out dj[p + 1]! dj[p]!
                            obtain ⟨x1, hx⟩ : ∃ x1, x1 = dj[p + 1]! := ⟨_, rfl⟩
                            obtain ⟨y1, hy⟩ : ∃ y1, y1 = dj[p]! := ⟨_, rfl⟩
                            rw [← hx] at r1 hLL hq
                            rw [← hy] at r2 hLL hq
                            clear hx hy HQ
                            obtain ⟨t, ht⟩ : ∃ t, t = ltN x1 y1 := ⟨_, rfl⟩
                            rw [← ht] at hLL hq
                            have HLL := Lib.hid hLL; clear hLL ht
                            subst hq
                            go_quiet (first | ((go_at_call 148; with_reducible exact Calls.quiet_of_same (HLL.out _))))
                            go_wp2_with fail
                            go_meet
                            exact ⟨rfl, _, rfl⟩
                          case rest =>
                            obtain ⟨rfl, m, hwm⟩ := hcut
                            have SJd : Aside (SO w b tl dj wc) := by rw [hwm]; exact SJ.out.drewN m
                            clear hwm SJ
                            obtain ⟨wj2, hwc⟩ : ∃ wj2, wj2 = wc := ⟨_, rfl⟩
                            rw [← hwc] at SJd ⊢
                            clear hwc
                            cases q with
                            | true =>
                              have hg2 : (!ltN dj[p + 1]! dj[p]!) = true := HQ.out.symm
                              have hE := HE.out
                              rw [hg2, if_pos rfl] at hE
                              have HF := Lib.hid SJd.out
                              rw [hE] at HF
                              go_wp2_with fail
                              go_meet
                              exact HF.out
                            | false =>
                              have hg2 : (!ltN dj[p + 1]! dj[p]!) = false := HQ.out.symm
                              have hE := HE.out
                              rw [hg2, if_neg (by simp)] at hE
                              have HE2 := Lib.hid hE; clear hE HE
                              go_wp2_with fail
                              have hfrz := SJd.out.1.free
                              have r1 := SJd.out.1.at (i := p + 1) (by omega)
                              have r2 := SJd.out.1.at (i := p) (by omega)
                              have hsw := SJd.out.swp (i := p + 1) (j := p)
                              have b1 : (p : Int) + 1 < (n : Int) := by omega
                              have b2 : (p : Int) < (n : Int) := by omega
                              have z1 : (0 : Int) ≤ (p : Int) + 1 := by omega
                              have z2 : (0 : Int) ≤ (p : Int) := by omega
                              have y1 : (p : Int) + 1 - 1 = (p : Int) := by omega
                              obtain ⟨x, hx⟩ : ∃ x, x = dj[p + 1]! := ⟨_, rfl⟩
                              obtain ⟨y, hy⟩ : ∃ y, y = dj[p]! := ⟨_, rfl⟩
                              rw [← hx] at r1 hsw
                              rw [← hy] at r2 hsw
                              have HSW := Lib.hid hsw; clear hsw hx hy
                              go_region
                              go_wp2
                              go_roundw
                              case rel => exact ⟨p, swp dj (p + 1) p, by go_num, by omega, by rw [size_swpN]; exact hjs, (show Aside _ from HSW.out _ (by omega) (by omega)), (show Aside _ from HE2.out)⟩
                              case measure => simp [intOf]
                    · have k3 : ¬ (2 : Int) ≤ (p : Int) + 1 - (a : Int) := by omega
                      have hD := HD2.out
                      rw [if_neg h2] at hD
                      have HF := Lib.hid S3.out
                      rw [← hD] at HF
                      clear hD
                      go_wp2_with fail
                      go_meet
                      exact HF.out
                  case rest =>
                    have S4 : Aside (SO w b tl D2 wc) := hcut
                    clear hcut S3
                    obtain ⟨w4, hw4⟩ : ∃ w4, w4 = wc := ⟨_, rfl⟩
                    rw [← hw4] at S4 ⊢
                    clear hw4
                    have HE0 := HE
                    clear HE
                    focus
                      by_cases h2 : hi - (p + 1) ≥ 2
                      · have k3 : (2 : Int) ≤ (hi : Int) - ((p : Int) + 1) := by omega
                        have hD := HD3.out
                        rw [if_pos h2] at hD
                        have HDD := Lib.hid hD; clear hD
                        go_wp2_with fail
                        go_loopw [10] (fun s10 wr => ∃ (p : Nat) (dj : Array Nat), s10 = .int .i64 ((p : Int) + 1) ∧ a ≤ p ∧ p < hi ∧ dj.size = n ∧ Aside (SO w b tl dj wr) ∧ Aside (shiftUp ltN hi (p + 1) dj = D3)) (fun s10 _ => n + 1 - (intOf s10).toNat)
                        case atStart => exact ⟨p + 1, D2, by go_num, by omega, by omega, hd2, S4.out, HDD.out.symm⟩
                        case round =>
                          obtain ⟨p, dj, rfl, hj1, hj2, hjs, SJ, EJ⟩ := hrel
                          obtain ⟨wj, hwj⟩ : ∃ wj, wj = wr := ⟨_, rfl⟩
                          rw [← hwj] at SJ ⊢
                          clear hwj
                          have hE := EJ.out
                          rw [shiftUp] at hE
                          by_cases hlt : p + 1 < hi
                          · have k1 : (p : Int) + 1 < (hi : Int) := by omega
                            have k2 : ((p + 1 : Nat) : Int) < (hi : Int) := by omega
                            rw [if_pos hlt] at hE
                            have HE := Lib.hid hE; clear hE EJ
                            go_wp2_with fail
                            obtain ⟨q, hq⟩ : ∃ q : Bool, q = (!ltN dj[p + 1]! dj[p]!) := ⟨_, rfl⟩
                            have HQ := Lib.hid hq; clear hq
                            go_upto_region 22 with (fail)
                            go_cut [116] (fun s116 wx => s116 = .bool q ∧ ∃ m, wx = wj.drewN m)
                            case first =>
                              have hfrz := SJ.out.1.free
                              have hq := HQ.out
                              have r1 := SJ.out.1.at (i := p + 1) (by omega)
                              have r2 := SJ.out.1.at (i := p) (by omega)
                              have b1 : (p : Int) + 1 < (n : Int) := by omega
                              have b2 : (p : Int) < (n : Int) := by omega
                              have z1 : (0 : Int) ≤ (p : Int) + 1 := by omega
                              have z2 : (0 : Int) ≤ (p : Int) := by omega
                              have y1 : (p : Int) + 1 - 1 = (p : Int) := by omega
                              have y2 : IntKind.i64.wrap (p : Int) = (p : Int) := IntWalk.i64_in _ (by omega)
                              have hLL := HL.out dj[p + 1]! dj[p]!
                              obtain ⟨x1, hx⟩ : ∃ x1, x1 = dj[p + 1]! := ⟨_, rfl⟩
                              obtain ⟨y1, hy⟩ : ∃ y1, y1 = dj[p]! := ⟨_, rfl⟩
                              rw [← hx] at r1 hLL hq
                              rw [← hy] at r2 hLL hq
                              clear hx hy HQ
                              obtain ⟨t, ht⟩ : ∃ t, t = ltN x1 y1 := ⟨_, rfl⟩
                              rw [← ht] at hLL hq
                              have HLL := Lib.hid hLL; clear hLL ht
                              subst hq
                              go_quiet (first | ((go_at_call 148; with_reducible exact Calls.quiet_of_same (HLL.out _))))
                              go_wp2_with fail
                              go_meet
                              exact ⟨rfl, _, rfl⟩
                            case rest =>
                              obtain ⟨rfl, m, hwm⟩ := hcut
                              have SJd : Aside (SO w b tl dj wc) := by rw [hwm]; exact SJ.out.drewN m
                              clear hwm SJ
                              obtain ⟨wj2, hwc⟩ : ∃ wj2, wj2 = wc := ⟨_, rfl⟩
                              rw [← hwc] at SJd ⊢
                              clear hwc
                              cases q with
                              | true =>
                                have hg2 : (!ltN dj[p + 1]! dj[p]!) = true := HQ.out.symm
                                have hE := HE.out
                                rw [show p + 1 - 1 = p from rfl, hg2, if_pos rfl] at hE
                                have HF := Lib.hid SJd.out
                                rw [hE] at HF
                                go_wp2_with fail
                                go_roundw
                                case rel => exact ⟨k, _, D3, by go_num, rfl, by omega, by omega, by omega, hd3, (show Aside _ from HF.out), (show Aside _ from HE0.out)⟩
                                case measure => simp [intOf]; omega
                              | false =>
                                have hg2 : (!ltN dj[p + 1]! dj[p]!) = false := HQ.out.symm
                                have hE := HE.out
                                rw [show p + 1 - 1 = p from rfl, hg2, if_neg (by simp)] at hE
                                have HE2 := Lib.hid hE; clear hE HE
                                go_wp2_with fail
                                have hfrz := SJd.out.1.free
                                have r1 := SJd.out.1.at (i := p + 1) (by omega)
                                have r2 := SJd.out.1.at (i := p) (by omega)
                                have hsw := SJd.out.swp (i := p + 1) (j := p)
                                have b1 : (p : Int) + 1 < (n : Int) := by omega
                                have b2 : (p : Int) < (n : Int) := by omega
                                have z1 : (0 : Int) ≤ (p : Int) + 1 := by omega
                                have z2 : (0 : Int) ≤ (p : Int) := by omega
                                have y1 : (p : Int) + 1 - 1 = (p : Int) := by omega
                                obtain ⟨x, hx⟩ : ∃ x, x = dj[p + 1]! := ⟨_, rfl⟩
                                obtain ⟨y, hy⟩ : ∃ y, y = dj[p]! := ⟨_, rfl⟩
                                rw [← hx] at r1 hsw
                                rw [← hy] at r2 hsw
                                have HSW := Lib.hid hsw; clear hsw hx hy
                                go_region
                                go_wp2
                                go_roundw
                                case rel => exact ⟨p + 1, swp dj (p + 1) p, by go_num, by omega, by omega, by rw [size_swpN]; exact hjs, (show Aside _ from HSW.out _ (by omega) (by omega)), (show Aside _ from HE2.out)⟩
                                case measure => simp [intOf]; omega
                          · have k1 : ¬ (p : Int) + 1 < (hi : Int) := by omega
                            have k2 : ¬ ((p + 1 : Nat) : Int) < (hi : Int) := by omega
                            rw [if_neg hlt] at hE
                            have HF := Lib.hid SJ.out
                            rw [hE] at HF
                            clear hE EJ
                            go_wp2_with fail
                            go_roundw
                            case rel => exact ⟨k, _, D3, by go_num, rfl, by omega, by omega, by omega, hd3, (show Aside _ from HF.out), (show Aside _ from HE0.out)⟩
                            case measure => simp [intOf]; omega
                      · have k3 : ¬ (2 : Int) ≤ (hi : Int) - ((p : Int) + 1) := by omega
                        have hD := HD3.out
                        rw [if_neg h2] at hD
                        have HF := Lib.hid S4.out
                        rw [← hD] at HF
                        clear hD
                        go_wp2_with fail
                        go_roundw
                        case rel => exact ⟨k, _, D3, by go_num, rfl, by omega, by omega, by omega, hd3, (show Aside _ from HF.out), (show Aside _ from HE0.out)⟩
                        case measure => simp [intOf]; omega
end
end
end Go.Proofs.YtjgappbomohlcaaGreatDoor
