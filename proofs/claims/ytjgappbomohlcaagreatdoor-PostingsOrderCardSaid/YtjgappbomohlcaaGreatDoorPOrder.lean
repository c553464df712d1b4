/-
  PostingsOrder (P10.4): in whatever order unlike series were added, what is selected is the same. The condition is the library's two tables': they hold what their initialisers lay, which the card ties to the program's text.
-/
import Derived.Test.YtjgappbomohlcaaGreatDoorK01
import Derived.Test.YtjgappbomohlcaaGreatDoorKOmt
import Derived.Test.YtjgappbomohlcaaGreatDoorKPol
import Derived.Test.YtjgappbomohlcaaGreatDoorK02
import Derived.Test.YtjgappbomohlcaaGreatDoorKPqn
import Derived.Test.YtjgappbomohlcaaGreatDoorKPyw
import Derived.Test.YtjgappbomohlcaaGreatDoorK05
namespace Go.Proofs.YtjgappbomohlcaaGreatDoor
set_option linter.unusedVariables false
set_option linter.unusedSimpArgs false
open Go.ChangeMaps (open_string)
open Go.ChangeShapes Go.WideShapes Go.ChangeAt Go.RowKit
section
set_option maxHeartbeats 6400000
set_option maxRecDepth 100000
theorem dat_at {l : List LR} {k : Nat} {y : LR} (h : l[k]? = some y) : gD (l.map (·.ls)) k = y.ls := by
  unfold gD; rw [List.getElem?_map, h]; rfl
theorem lr_at {w : World} {A : Option Addr} {l : List LR} (h : Rd w A (l.flatMap lrC)) {k : Nat} {y : LR} (hk : l[k]? = some y) : ∃ b off, A = some ⟨b, off, none⟩ ∧ w.cell? ⟨b, off + k, none⟩ = some (.slice y.A y.ls.length y.c) := by
  obtain ⟨b, off, e, hcl⟩ := h.flat lrC_len (by decide) hk
  have := hcl 0 _ rfl
  rw [Nat.mul_one, Nat.add_zero] at this
  exact ⟨b, off, e, this⟩
theorem nodup_more {D : List (List Lb)} {k : Nat} {ls : List Lb} (h : (D.take k).Nodup) (hk : k < D.length) (e : gD D k = ls) (hj : ∀ j, j < k → gD D j ≠ ls) : (D.take (k + 1)).Nodup := by
  have e2 : D[k] = ls := by rw [← e]; unfold gD; rw [List.getElem?_eq_getElem hk]; rfl
  rw [List.take_succ_eq_append_getElem hk, List.nodup_append]
  refine ⟨h, by simp, fun a ha b hb => ?_⟩
  rw [List.mem_singleton] at hb
  obtain ⟨j, hj1, rfl⟩ := List.mem_iff_getElem.1 ha
  rw [List.length_take] at hj1
  rw [List.getElem_take]
  rw [hb, e2]
  intro e3
  exact hj j (by omega) (by unfold gD; rw [List.getElem?_eq_getElem (by omega)]; exact e3)
theorem selR_len10 {L : List Ser} (h : Wf L) (m : List Mt') : (selR L m).length ≤ 1000000 := by
  unfold selR
  split
  · unfold selL
    have h1 := riseN_len ((L.filter fun s => passesM m s.2).map (·.1))
    rw [List.length_map] at h1
    have h2 := List.length_filter_le (fun s : Ser => passesM m s.2) L
    have := h.few; omega
  · simp
theorem namesL_len10 {L : List Ser} (h : Wf L) : (namesL L).length ≤ 1000000 := by
  refine Nat.le_trans (riseT_len _) ?_
  have h1 := flat_le (fun s : Ser => s.2.map (·.1)) 16 L fun s hs => by rw [List.length_map]; exact (right_parts (h.right s hs)).1
  have := h.few; omega
theorem duoX_select {w0 w : World} {xb yb : Nat} {L M : List Ser} (h : DuoX w0 w xb yb L M) (hT : Tabs w0) (A : Option Addr) (ca : Nat) (l : List Mt') (hx : Rd w A (mcells l)) (hl : l.length ≤ 100000) (hv : ∀ m ∈ l, m.2.1.size ≤ 1000000 ∧ m.2.2.size ≤ 1000000) :
    Calls Tryz.prog 24 #[.pointer (some ⟨xb, 0, none⟩), .slice A l.length ca] w fun e w' => ∃ B c, e = .returned (.tuple #[.slice B (selR L l).length c, .int .i64 (rightM l : Nat)]) ∧ Rd w' B ((selR L l).map Un) ∧ (selR L l).length ≤ 1000000 ∧ Below w.heap.size w w' := by
  obtain ⟨T, h⟩ := h
  obtain ⟨G, H, h1, h2, h3, h4, h5⟩ := h.ex
  refine (iselect_any h1 (hT.below h.bel) A ca l hx hl hv).mono fun e w' ⟨B, c, e1, ho, hb⟩ => ⟨B, c, e1, rd_own_u ho, selR_len10 h1.wf l, hb⟩
theorem duoX_names {w0 w : World} {xb yb : Nat} {L M : List Ser} (h : DuoX w0 w xb yb L M) : Calls Tryz.prog 28 #[.pointer (some ⟨xb, 0, none⟩)] w fun e w' => ∃ B c, e = .returned (.slice B (namesL L).length c) ∧ Rd w' B (tcells (namesL L)) ∧ (namesL L).length ≤ 1000000 ∧ Below w.heap.size w w' := by
  obtain ⟨T, h⟩ := h
  obtain ⟨G, H, h1, h2, h3, h4, h5⟩ := h.ex
  refine (inames_any h1).mono fun e w' ⟨B, c, e1, ho, hb⟩ => ⟨B, c, e1, rd_own_t ho, namesL_len10 h1.wf, hb⟩
theorem rot_rem {n t k : Nat} {a : Int} (ht : (t : Int) = a % (n : Int)) (htn : t < n) (hk : k < n) (hn : n ≤ 40) : (wrap64 ((k : Int) + a % (n : Int))).tmod (n : Int) = (rotN n t k : Int) := by
  rw [← ht]
  clear ht
  have hw : wrap64 ((k : Int) + (t : Int)) = (k : Int) + (t : Int) := by unfold wrap64; omega
  rw [hw, Int.tmod_eq_emod_of_nonneg (Int.add_nonneg (Int.natCast_nonneg _) (Int.natCast_nonneg _))]
  unfold rotN
  rw [Int.natCast_emod, Int.natCast_add]
theorem porder_walk (A : Option Addr) (c : Nat) (l : List LR) (B : Option Addr) (cb : Nat) (m : List Mt') (a : Int) (w : World) (hT : Tabs w) (hx : Rd w A (l.flatMap lrC)) (ho : ∀ o ∈ l, LrIn w o) (hm : Rd w B (mcells m)) (ha : -9223372036854775808 ≤ a ∧ a ≤ 9223372036854775807) (hc : l.length ≤ c) :
    Calls Tryz.prog 7 #[.slice A l.length c, .slice B m.length cb, .int .i64 a] w fun e w' => e = .returned (.bool true) ∧ Below w.heap.size w w' := by
  have HT := Lib.hid hT
  have H1 := Lib.hid (live_any10 w hT)
  have hlo := fun (W : World) (hb : Below w.heap.size w W) => long_any B cb m W (hm.below hb)
  have HX := Lib.hid hx
  have HO := Lib.hid ho
  have HM := Lib.hid hm
  by_cases h0 : l.length = 0
  · have g1 : ((l.length : Int) == 0) = true := by rw [beq_iff_eq]; omega
    clear hT hx ho hm hlo
    go_enter Tryz.func7, Tryz.ntmps7
    go_wp2_with (first
      | (go_at_call 11; refine H1.out.mono ?_; rintro e w1 ⟨rfl, hb1⟩; have HB1 := Lib.hid hb1; clear hb1)
      | fail)
    go_upto_region 2 with fail
    have h9 := live_any10 w1 (HT.out.below HB1.out)
    have H9 := Lib.hid h9; clear h9
    go_wp2_with (first
      | (go_at_call 11; refine H9.out.mono ?_; rintro e w9 ⟨rfl, hb9⟩; have HB9 := Lib.hid (HB1.out.trans (hb9.mono HB1.out.size)); clear hb9)
      | fail)
    go_ret
    exact ⟨rfl, HB9.out⟩
  by_cases h40 : 40 < l.length
  · have g1 : ((l.length : Int) == 0) = false := by rw [beq_eq_false_iff_ne]; omega
    have g2 : (40 : Int) < (l.length : Int) := by omega
    clear hT hx ho hm hlo
    go_enter Tryz.func7, Tryz.ntmps7
    go_wp2_with (first
      | (go_at_call 11; refine H1.out.mono ?_; rintro e w1 ⟨rfl, hb1⟩; have HB1 := Lib.hid hb1; clear hb1)
      | fail)
    go_upto_region 2 with fail
    have h9 := live_any10 w1 (HT.out.below HB1.out)
    have H9 := Lib.hid h9; clear h9
    go_wp2_with (first
      | (go_at_call 11; refine H9.out.mono ?_; rintro e w9 ⟨rfl, hb9⟩; have HB9 := Lib.hid (HB1.out.trans (hb9.mono HB1.out.size)); clear hb9)
      | fail)
    go_ret
    exact ⟨rfl, HB9.out⟩
  have g1 : ((l.length : Int) == 0) = false := by rw [beq_eq_false_iff_ne]; omega
  have g2 : ¬ (40 : Int) < (l.length : Int) := by omega
  cases hs : shortB10 m with
  | false =>
    rw [hs] at hlo
    have HLO := Lib.hid hlo
    clear hT hx ho hm hlo hs
    go_enter Tryz.func7, Tryz.ntmps7
    go_wp2_with (first
      | (go_at_call 11; refine H1.out.mono ?_; rintro e w1 ⟨rfl, hb1⟩; have HB1 := Lib.hid hb1; clear hb1)
      | (go_at_call 22; refine (HLO.out _ HB1.out).mono ?_; rintro e w2 ⟨rfl, hb2⟩; have HB2 := Lib.hid (HB1.out.trans (hb2.mono HB1.out.size)); clear hb2)
      | fail)
    go_upto_region 2 with fail
    have h9 := live_any10 w2 (HT.out.below HB2.out)
    have H9 := Lib.hid h9; clear h9
    go_wp2_with (first
      | (go_at_call 11; refine H9.out.mono ?_; rintro e w9 ⟨rfl, hb9⟩; have HB9 := Lib.hid (HB2.out.trans (hb9.mono HB2.out.size)); clear hb9)
      | fail)
    go_ret
    exact ⟨rfl, HB9.out⟩
  | true =>
    rw [hs] at hlo
    have HLO := Lib.hid hlo
    obtain ⟨hm30, hm200⟩ := short_of hs
    have HMV := Lib.hid hm200
    clear hT hx ho hm hlo hs hm200
    by_cases hneg : a < 0
    · go_enter Tryz.func7, Tryz.ntmps7
      go_wp2_with (first
        | (go_at_call 11; refine H1.out.mono ?_; rintro e w1 ⟨rfl, hb1⟩; have HB1 := Lib.hid hb1; clear hb1)
        | (go_at_call 22; refine (HLO.out _ HB1.out).mono ?_; rintro e w2 ⟨rfl, hb2⟩; have HB2 := Lib.hid (HB1.out.trans (hb2.mono HB1.out.size)); clear hb2)
        | fail)
      go_upto_region 2 with fail
      have h9 := live_any10 w2 (HT.out.below HB2.out)
      have H9 := Lib.hid h9; clear h9
      go_wp2_with (first
        | (go_at_call 11; refine H9.out.mono ?_; rintro e w9 ⟨rfl, hb9⟩; have HB9 := Lib.hid (HB2.out.trans (hb9.mono HB2.out.size)); clear hb9)
        | fail)
      go_ret
      exact ⟨rfl, HB9.out⟩
    have heq := neq_ptr
    obtain ⟨D, hD⟩ : ∃ D, D = l.map (·.ls) := ⟨_, rfl⟩
    have hDl : D.length = l.length := by rw [hD, List.length_map]
    have HDAT := Lib.hid (fun (k : Nat) (y : LR) (h : l[k]? = some y) => (by rw [hD]; exact dat_at h : gD D k = y.ls))
    have HDL := Lib.hid hDl
    clear hD hDl
    go_enter Tryz.func7, Tryz.ntmps7
    go_wp2_with (first
      | (go_at_call 11; refine H1.out.mono ?_; rintro e w1 ⟨rfl, hb1⟩; have HB1 := Lib.hid hb1; clear hb1)
      | (go_at_call 22; refine (HLO.out _ HB1.out).mono ?_; rintro e w2 ⟨rfl, hb2⟩; have HB2 := Lib.hid (HB1.out.trans (hb2.mono HB1.out.size)); clear hb2)
      | (go_at_call 14; refine (inew_any w4).mono ?_; rintro e w5 ⟨yb, H, rfl, hi2, hb2, hg2⟩
         have HDUO := Lib.hid (duo_start HI1.out HB4.out HG1.out hi2 hb2 hg2)
         clear hi2 hb2 hg2 HI1 HB4 HG1)
      | (go_at_call 14; refine (inew_any w2).mono ?_; rintro e w4 ⟨xb, G, rfl, hi1, hb1, hg1⟩
         have HI1 := Lib.hid hi1; have HB4 := Lib.hid hb1; have HG1 := Lib.hid hg1
         clear hi1 hb1 hg1)
      | fail)
    go_loopw [50] (fun s50 wr => ∃ k : Nat, s50 = .int .i64 k ∧ k ≤ l.length ∧ Aside (Below w5.heap.size w5 wr) ∧ Aside (∀ i, i < k → Few (gD D i)) ∧ Aside ((D.take k).Nodup)) (fun s50 _ => l.length - (intOf s50).toNat)
    case atStart => exact ⟨0, rfl, Nat.zero_le _, (show Aside _ from Below.refl _ _), (show Aside _ from fun i hi => absurd hi (by omega)), (show Aside _ from (List.nodup_nil : (D.take 0).Nodup))⟩
    case round =>
      obtain ⟨k, rfl, hk, BW, FW, ND⟩ := hrel
      have k0 : (0 : Int) ≤ (k : Int) := by omega
      have B5 := Lib.hid (HB2.out.trans (HDUO.out.bel.mono HB2.out.size))
      have BR := Lib.hid (B5.out.trans (BW.out.mono B5.out.size))
      by_cases hlt : k < l.length
      · have k1 : (k : Int) < (l.length : Int) := by omega
        obtain ⟨y, hy⟩ : ∃ y, l[k]? = some y := ⟨_, List.getElem?_eq_getElem hlt⟩
        obtain ⟨b, off, rfl, d0⟩ := lr_at (HX.out.below BR.out) hy
        have hdat := HDAT.out k y hy
        have hyo := HO.out y (List.mem_of_getElem? hy)
        have HYO := Lib.hid hyo
        have hbg := big_any y.A y.c y.ls wr (hyo.below BR.out)
        obtain ⟨lsn, hlsn⟩ : ∃ lsn, lsn = y.ls.length := ⟨_, rfl⟩
        rw [← hlsn] at d0 hbg
        have HDT := Lib.hid hdat
        have HLN := Lib.hid hlsn
        clear hdat hyo hlsn hy
        cases hsb : smallB y.ls with
        | false =>
          rw [hsb] at hbg
          have HBG := Lib.hid hbg
          clear hbg hsb
          go_wp2_with (first
            | (go_at_call 13; refine HBG.out.mono ?_; rintro e w6 ⟨rfl, hb6⟩; have HB6 := Lib.hid (BR.out.trans (hb6.mono BR.out.size)); clear hb6)
            | fail)
          go_ret
          exact ⟨rfl, HB6.out⟩
        | true =>
          rw [hsb] at hbg
          have HBG := Lib.hid hbg
          have HFY := Lib.hid (small_few hsb)
          clear hbg hsb
          go_wp2_with (first
            | (go_at_call 13; refine HBG.out.mono ?_; rintro e w6 ⟨rfl, hb6⟩; have HB6 := Lib.hid (BW.out.trans (hb6.mono BW.out.size)); clear hb6)
            | fail)
          go_loopw [58] (fun s58 wr => ∃ j : Nat, s58 = .int .i64 j ∧ j ≤ k ∧ Aside (Below w5.heap.size w5 wr) ∧ Aside (∀ i, i < j → gD D i ≠ y.ls)) (fun s58 _ => k - (intOf s58).toNat)
          case atStart => exact ⟨0, rfl, Nat.zero_le _, (show Aside _ from HB6.out), (show Aside _ from fun i hi => absurd hi (by omega))⟩
          case round =>
            clear HB6 d0
            obtain ⟨j, rfl, hj, BJ, NJ⟩ := hrel
            have j0 : (0 : Int) ≤ (j : Int) := by omega
            have BR2 := Lib.hid (B5.out.trans (BJ.out.mono B5.out.size))
            by_cases hlj : j < k
            · have j1 : (j : Int) < (k : Int) := by omega
              have j2 : (j : Int) < (l.length : Int) := by omega
              obtain ⟨z, hz⟩ : ∃ z, l[j]? = some z := ⟨_, List.getElem?_eq_getElem (by omega)⟩
              obtain ⟨b2, off2, hAe, e0⟩ := lr_at (HX.out.below BR2.out) hz
              injection hAe with hAe
              injection hAe with hA1 hA2 _
              subst hA1 hA2
              have hdz := HDAT.out j z hz
              have hzo := HO.out z (List.mem_of_getElem? hz)
              have hfz := FW.out j hlj
              rw [hdz] at hfz
              have hsm := rsame_any z.A y.A z.c y.c z.ls y.ls wr (hzo.below BR2.out) (HYO.out.below BR2.out) (by have := hfz.1; omega) (by have := HFY.out.1; omega)
              rw [← hdz] at hsm
              have hdz2 := hdz
              obtain ⟨zn, hzn⟩ : ∃ zn, zn = z.ls.length := ⟨_, rfl⟩
              rw [show (gD D j).length = zn by rw [hdz, hzn]] at hsm
              rw [← hzn] at e0
              rw [← HLN.out] at hsm
              clear hdz hzo hfz hz hzn hdz2
              by_cases he : gD D j = y.ls
              · rw [decide_eq_true he] at hsm
                have HSM := Lib.hid hsm
                clear hsm he
                go_wp2_with (first
                  | (go_at_call 21; refine HSM.out.mono ?_; rintro e w7 ⟨rfl, q7, rfl⟩)
                  | fail)
                go_ret
                exact ⟨rfl, below_drewN BR2.out q7⟩
              · rw [decide_eq_false he] at hsm
                have HSM := Lib.hid hsm
                have HNE := Lib.hid he
                clear hsm he
                go_wp2_with (first
                  | (go_at_call 21; refine HSM.out.mono ?_; rintro e w7 ⟨rfl, q7, rfl⟩)
                  | fail)
                go_roundw
                case rel =>
                  refine ⟨j + 1, by go_num, by omega, (show Aside _ from below_drewN BJ.out q7), (show Aside _ from fun i hi => ?_)⟩
                  by_cases e : i = j
                  · rw [e]; exact HNE.out
                  · exact NJ.out i (by omega)
                case measure => simp [intOf]; omega
            · obtain rfl : j = k := by omega
              have HND := Lib.hid (nodup_more ND.out (by rw [HDL.out]; omega) HDT.out NJ.out)
              go_wp2_with fail
              go_roundw
              case rel =>
                refine ⟨j + 1, by go_num, by omega, (show Aside _ from BJ.out), (show Aside _ from fun i hi => ?_), (show Aside _ from HND.out)⟩
                by_cases e : i = j
                · rw [e, HDT.out]; exact HFY.out
                · exact FW.out i (by omega)
              case measure => simp [intOf]; omega
      · obtain rfl : k = l.length := by omega
        have hnd := ND.out
        rw [← HDL.out, List.take_length] at hnd
        have HND := Lib.hid hnd
        have HFW := Lib.hid FW.out
        have HDW := Lib.hid (HDUO.out.below BW.out)
        clear hnd FW ND BW HDUO B5 BR
        obtain ⟨t, ht⟩ : ∃ t : Nat, (t : Int) = a % (l.length : Int) := ⟨(a % (l.length : Int)).toNat, by have := Int.emod_nonneg a (show (l.length : Int) ≠ 0 by omega); omega⟩
        have htl : t < l.length := by have := Int.emod_lt_of_pos a (show (0 : Int) < (l.length : Int) by omega); omega
        have HTE := Lib.hid ht
        clear ht
        go_wp2_with fail
        go_loopw [71] (fun s71 wr => ∃ (k : Nat) (T : Nat → Prop), s71 = .int .i64 k ∧ k ≤ l.length ∧ Aside (Duo w2 wr xb yb T (seqF D (List.range k)) (seqF D ((List.range k).map (rotN l.length t))))) (fun s71 _ => l.length - (intOf s71).toNat)
        case atStart => exact ⟨0, _, rfl, Nat.zero_le _, (show Aside _ from HDW.out)⟩
        case round =>
          clear HDW hk k0 hlt
          obtain ⟨k, T, rfl, hk, HK⟩ := hrel
          have k0 : (0 : Int) ≤ (k : Int) := by omega
          have BR := Lib.hid (HB2.out.trans (HK.out.bel.mono HB2.out.size))
          by_cases hlt : k < l.length
          · have k1 : (k : Int) < (l.length : Int) := by omega
            obtain ⟨y, hy⟩ : ∃ y, l[k]? = some y := ⟨_, List.getElem?_eq_getElem hlt⟩
            obtain ⟨b, off, rfl, d0⟩ := lr_at (HX.out.below BR.out) hy
            obtain ⟨r, hr⟩ : ∃ r, r = rotN l.length t k := ⟨_, rfl⟩
            have hrl : r < l.length := by rw [hr]; exact Nat.mod_lt _ (by omega)
            obtain ⟨z, hz⟩ : ∃ z, l[r]? = some z := ⟨_, List.getElem?_eq_getElem hrl⟩
            obtain ⟨b2, off2, hAe, e0⟩ := lr_at (HX.out.below BR.out) hz
            injection hAe with hAe
            injection hAe with hA1 hA2 _
            subst hA1 hA2
            have r0 : (0 : Int) ≤ (r : Int) := by omega
            have r1 : (r : Int) < (l.length : Int) := by omega
            have HRE := Lib.hid hr
            have hne : (l.length : Int) ≠ 0 := by omega
            have hq : ((l.length : Int) == 0) = false := g1
            have hy2 := HO.out y (List.mem_of_getElem? hy)
            have hz2 := HO.out z (List.mem_of_getElem? hz)
            have hrot : r ∉ (List.range k).map (rotN l.length t) := by
              rw [List.mem_map]
              rintro ⟨j, hj, e⟩
              have := rot_inj htl (by have := List.mem_range.1 hj; omega) hlt (e.trans hr)
              have := List.mem_range.1 hj
              omega
            have s1 := seqF_step HND.out (by rw [HDL.out]; omega) (idx := List.range k) (by rw [List.length_range]; omega) (fun i hi => by have := List.mem_range.1 hi; rw [HDL.out]; omega) (i := k) (by rw [HDL.out]; omega) (fun e => by have := List.mem_range.1 e; omega)
            have s2 := seqF_step HND.out (by rw [HDL.out]; omega) (idx := (List.range k).map (rotN l.length t)) (by rw [List.length_map, List.length_range]; omega) (fun i hi => by obtain ⟨j, hj, rfl⟩ := List.mem_map.1 hi; rw [HDL.out]; exact Nat.mod_lt _ (by omega)) (i := r) (by rw [HDL.out]; omega) hrot
            have e1' : List.range k ++ [k] = List.range (k + 1) := List.range_succ.symm
            have e2' : (List.range k).map (rotN l.length t) ++ [r] = (List.range (k + 1)).map (rotN l.length t) := by rw [List.range_succ, List.map_append, hr]; rfl
            rw [e1'] at s1
            rw [e2'] at s2
            rw [HDAT.out k y hy] at s1
            rw [HDAT.out r z hz] at s2
            have hfy := HFW.out k hlt
            have hfz := HFW.out r hrl
            rw [HDAT.out k y hy] at hfy
            rw [HDAT.out r z hz] at hfz
            have HD := Lib.hid (show DuoX w2 wr xb yb (seqF D (List.range k)) (seqF D ((List.range k).map (rotN l.length t))) from ⟨T, HK.out⟩)
            obtain ⟨L, hL⟩ : ∃ L, L = seqF D (List.range k) := ⟨_, rfl⟩
            obtain ⟨M, hM⟩ : ∃ M, M = seqF D ((List.range k).map (rotN l.length t)) := ⟨_, rfl⟩
            obtain ⟨L', hL'⟩ : ∃ L', L' = seqF D (List.range (k + 1)) := ⟨_, rfl⟩
            obtain ⟨M', hM'⟩ : ∃ M', M' = seqF D ((List.range (k + 1)).map (rotN l.length t)) := ⟨_, rfl⟩
            rw [← hL, ← hL'] at s1
            rw [← hM, ← hM'] at s2
            rw [← hL, ← hM] at HD
            have HT2 := HT.out.below HB2.out
            have hax := fun (W : World) (h : DuoX w2 W xb yb L M) => duoX_add h HT2 (show k < 18446744073709551616 by omega) y.A y.c y.ls (hy2.below HB2.out) hfy
            have hay := fun (W : World) (h : DuoX w2 W xb yb L' M) => duoX_add h.swap HT2 (show r < 18446744073709551616 by omega) z.A z.c z.ls (hz2.below HB2.out) hfz
            rw [s1.1, s1.2] at hax
            rw [s2.1, s2.2] at hay
            have hrx := fun (W : World) (hb : Below w2.heap.size w2 W) => rright_any y.A y.c y.ls W ((hy2.below HB2.out).below hb) hfy
            have hry := fun (W : World) (hb : Below w2.heap.size w2 W) => rright_any z.A z.c z.ls W ((hz2.below HB2.out).below hb) hfz
            have hce := fun (W : World) (hb : Below w2.heap.size w2 W) => lr_at ((HX.out.below HB2.out).below hb) hz
            obtain ⟨R1, hR1⟩ : ∃ R1, R1 = rightP y.ls := ⟨_, rfl⟩
            obtain ⟨R2, hR2⟩ : ∃ R2, R2 = rightP z.ls := ⟨_, rfl⟩
            rw [← hR1] at hax hrx
            rw [← hR2] at hay hry
            obtain ⟨yn, hyn⟩ : ∃ yn, yn = y.ls.length := ⟨_, rfl⟩
            obtain ⟨zn, hzn⟩ : ∃ zn, zn = z.ls.length := ⟨_, rfl⟩
            rw [← hyn] at hax hrx d0
            rw [← hzn] at hay hry e0 hce
            have hce' : ∀ (W : World), Below w2.heap.size w2 W → W.cell? ⟨b, off + r, none⟩ = some (.slice z.A zn z.c) := fun W hb => by
              obtain ⟨b9, off9, e9, c9⟩ := hce W hb
              injection e9 with e9
              injection e9 with e91 e92 _
              rw [e91, e92]; exact c9
            have gR1 : ((R1 : Int) != (R1 : Int)) = false := by simp
            have gR2 : ((R2 : Int) != (R2 : Int)) = false := by simp
            have hwk : IntKind.u64.wrap (k : Int) = (k : Int) := IntWalk.u64_in _ (by omega)
            have hwr : IntKind.u64.wrap (r : Int) = (r : Int) := IntWalk.u64_in _ (by omega)
            have hrem := rot_rem HTE.out htl hlt (by omega : l.length ≤ 40)
            rw [← hr] at hrem
            have HAX := Lib.hid hax; have HAY := Lib.hid hay; have HRX := Lib.hid hrx; have HRY := Lib.hid hry; have HCE := Lib.hid hce'
            have HL' := Lib.hid hL'; have HM' := Lib.hid hM'; have HREM := Lib.hid hrem
            have HBc := Lib.hid (show Below w2.heap.size w2 wr from HK.out.bel)
            clear hr hy hz hy2 hz2 hrot s1 s2 e1' e2' hfy hfz HK hL hM hL' hM' HT2 hax hay hrx hry hce hce' hyn hzn hR1 hR2 hrem HRE
            go_upto_region 22 with fail
            simp only [HREM.out]
            go_region_held3 (fun W' => W'.cell? ⟨b, off + r, none⟩ = some (.slice z.A zn z.c)) (first | exact HCE.out _ HBc.out | exact HCE.out _ (below_drewN HBc.out _)) (first
              | (go_at_call 38; (first
                  | (with_reducible refine (HAX.out _ (by first | exact HD.out | exact HD.out.drew | exact HD.out.drewN _)).mono ?_; rintro e w9 ⟨rfl, hd9⟩; have HD := Lib.hid hd9; have HBc := Lib.hid hd9.bel; clear hd9)
                  | (with_reducible refine (HAY.out _ (by first | exact HD.out | exact HD.out.drew | exact HD.out.drewN _)).mono ?_; rintro e w9 ⟨rfl, hd9⟩; have HD := Lib.hid hd9.swap; have HBc := Lib.hid hd9.bel; clear hd9)
                  | fail))
              | (go_at_call 39; (first
                  | (with_reducible refine (HRX.out _ (by first | exact HBc.out | exact below_drewN HBc.out _)).mono ?_; rintro e w9 ⟨rfl, hb9⟩; have hd9 := DuoX.below (by first | exact HD.out | exact HD.out.drew | exact HD.out.drewN _) hb9; have HD := Lib.hid hd9; have HBc := Lib.hid hd9.bel; clear hd9 hb9)
                  | (with_reducible refine (HRY.out _ (by first | exact HBc.out | exact below_drewN HBc.out _)).mono ?_; rintro e w9 ⟨rfl, hb9⟩; have hd9 := DuoX.below (by first | exact HD.out | exact HD.out.drew | exact HD.out.drewN _) hb9; have HD := Lib.hid hd9; have HBc := Lib.hid hd9.bel; clear hd9 hb9)
                  | fail))
              | fail)
            all_goals
              go_wp2_with fail
              obtain ⟨T9, h9⟩ := HD.out
              rw [HL'.out, HM'.out] at h9
              exact ⟨⟨k + 1, T9, by go_num, by omega, (show Aside _ from h9)⟩, by simp [intOf]; omega⟩
          · obtain rfl : k = l.length := by omega
            have hmem := seqF_mem (D := D) (idx := List.range l.length) (jdx := (List.range l.length).map (rotN l.length t)) fun i => (rot_mem htl i).symm
            have HSM := Lib.hid (selR_congr hmem m)
            have HNM := Lib.hid (namesL_congr hmem)
            have HD := Lib.hid (show DuoX w2 wr xb yb (seqF D (List.range l.length)) (seqF D ((List.range l.length).map (rotN l.length t))) from ⟨T, HK.out⟩)
            have HT2 := Lib.hid (HT.out.below HB2.out)
            have HB0 := Lib.hid BR.out
            clear hmem HK
            go_wp2_with fail
            refine (duoX_select HD.out HT2.out B cb m (HM.out.below HB0.out) (by omega) (fun x hx => by have := HMV.out x hx; omega)).mono ?_
            rintro e w6 ⟨A6, c6, rfl, hr6, hz6, hb6⟩
            have HD6 := Lib.hid (HD.out.below hb6)
            have HB6 := Lib.hid (HB0.out.trans (hb6.mono HB0.out.size))
            have HR6 := Lib.hid hr6
            clear hr6 hb6
            go_wp2_with fail
            refine (duoX_select HD6.out.swap HT2.out B cb m (HM.out.below HB6.out) (by omega) (fun x hx => by have := HMV.out x hx; omega)).mono ?_
            rintro e w7 ⟨A7, c7, rfl, hr7, hz7, hb7⟩
            have HD7 := Lib.hid (HD6.out.below hb7)
            have HB7 := Lib.hid (HB6.out.trans (hb7.mono HB6.out.size))
            rw [← HSM.out] at hr7
            rw [← HSM.out]
            have h7 := nums_any A6 A7 c6 c7 (selR (seqF D (List.range l.length)) m) (selR (seqF D (List.range l.length)) m) w7 (HR6.out.below hb7) hr7 hz6 hz6
            rw [decide_eq_true rfl] at h7
            have HN7 := Lib.hid h7
            clear h7 hr7 hb7 hz7
            have gm : ((rightM m : Int) == (rightM m : Int)) = true := beq_self_eq_true _
            generalize (selR (seqF D (List.range l.length)) m).length = sn at HN7 ⊢
            generalize (rightM m : Int) = rm at gm ⊢
            go_wp2_with fail
            refine HN7.out.mono ?_
            rintro e w8' ⟨rfl, q8, rfl⟩
            have HD8 := Lib.hid (HD7.out.drewN q8)
            have HB8 := Lib.hid (below_drewN HB7.out q8)
            generalize w7.drewN q8 = w8 at HD8 HB8 ⊢
            go_wp2_with fail
            refine (duoX_names HD8.out).mono ?_
            rintro e w10 ⟨A10, c10, rfl, hr10, hz10, hb10⟩
            have HD10 := Lib.hid (HD8.out.below hb10)
            have HB10 := Lib.hid (HB8.out.trans (hb10.mono HB8.out.size))
            have HR10 := Lib.hid hr10
            clear hr10 hb10
            go_wp2_with fail
            refine (duoX_names HD10.out.swap).mono ?_
            rintro e w11 ⟨A11, c11, rfl, hr11, hz11, hb11⟩
            have HB11 := Lib.hid (HB10.out.trans (hb11.mono HB10.out.size))
            rw [← HNM.out] at hr11
            rw [← HNM.out]
            have h11 := words_any A10 A11 c10 c11 (namesL (seqF D (List.range l.length))) (namesL (seqF D (List.range l.length))) w11 (HR10.out.below hb11) hr11 hz10 hz10
            rw [decide_eq_true rfl] at h11
            have HN11 := Lib.hid h11
            clear h11 hr11 hb11 hz11 hz10
            generalize (namesL (seqF D (List.range l.length))).length = nn at HN11 ⊢
            go_wp2_with fail
            refine HN11.out.mono ?_
            rintro e w12' ⟨rfl, q12, rfl⟩
            have HB12 := Lib.hid (below_drewN HB11.out q12)
            go_wp2_with fail
            go_ret
            exact ⟨rfl, HB12.out⟩
end


set_option maxRecDepth 100000 in
theorem postingsOrder_contract (H : Type) (enc : TypeId × Value → H) (W : World) (base : Nat) (args : Array Value) (ds gs : List (DataW H)) (before : List MemPlace)
    (hval : ∀ (j : Nat) t v, Tryz.f7.params[j]? = some t → args[j]? = some v → Value.okWide Tryz.prog W .any base t v)
    (hW : DataW.Whole enc Tryz.prog Tryz.f7.params.toList Rows.postingsOrderSpec.vars false W args.toList ds gs before) (hL : laidMetH Tryz.prog Rows.postingsOrderRow.laid W) :
    Calls Tryz.prog 7 args W fun e W' => ∃ v, e = .returned v ∧ Rows.postingsOrderSpec.post enc Tryz.prog Tryz.f7 false true false false W args v W' := by
  have hW' := hW
  obtain ⟨p, q, hA0, hV, rfl, hfz, hnd⟩ := hW
  have hA : DataW.TrodAll enc Tryz.prog W 0 (fun _ => true) true Tryz.f7.params.toList args.toList ds p := hA0
  rw [Tryz.params7] at hA hval
  obtain ⟨v0, vs0, d0, ds0, p0, q0, hargs, rfl, rfl, h0, r0⟩ := trodAll_cons hA
  obtain ⟨v1, vs1, d1, ds1, p1, q1, rfl, rfl, rfl, h1, r1⟩ := trodAll_cons r0
  obtain ⟨v2, vs2, d2, ds2, p2, q2, rfl, rfl, rfl, h2, r2⟩ := trodAll_cons r1
  obtain ⟨rfl, rfl, rfl⟩ := trodAll_nil r2
  obtain rfl : args = #[v0, v1, v2] := by cases args; simp_all
  obtain ⟨rfl, rfl⟩ := trodVars_none hV
  obtain ⟨A0, c0, l0, rfl, hm0, hx0, hs0⟩ := open_labss (hval 0 61 v0 rfl rfl) h0
  obtain ⟨A1, c1, m1, rfl, hm1, hx1, hs1⟩ := open_matchers (hval 1 45 v1 rfl rfl) h1
  obtain ⟨a2, rfl, rfl, rfl, w2⟩ := open_int Tryz.underlying3 (hval 2 3 v2 rfl rfl) h2
  clear hA0 hA
  unfold maxLen at hm0
  unfold maxLen at hm1 hs1
  have b2 := bounds_i64 w2
  refine (porder_walk A0 c0 l0 A1 c1 m1 a2 W (tabs hL) hx0 hs0 hx1 b2 hm0.1).mono fun e W' ⟨he, hg⟩ => ?_
  subst he
  exact ⟨_, rfl, law_end laidOut (by kernel_rfl) (by kernel_rfl) Tryz.underlying4 rfl hW' ⟨rfl, rfl, rfl⟩ hg⟩

theorem postingsOrder_met (os : Os) : laidMet Tryz.prog Rows.postingsOrderRow.laid ((laidWorld os).forCall (fun _ _ => 0) ⟨#[], #[.slice none 0 0, .slice none 0 0, .int .i64 0], []⟩).memory :=
  laid_met os _
theorem postingsOrder_reads (os : Os) {H : Type} (enc : TypeId × Value → H) : ∃ places, DataW.whole enc Tryz.prog ((laidWorld os).forCall (fun _ _ => 0) ⟨#[], #[.slice none 0 0, .slice none 0 0, .int .i64 0], []⟩).memory Tryz.f7.params.toList Rows.postingsOrderSpec.vars false (#[.slice none 0 0, .slice none 0 0, .int .i64 0] : Array Value).toList 8 = some ([.nil, .nil, .lit (.int .i64 0)], [], places) :=
  ⟨[], by kernel_rfl⟩

set_option maxRecDepth 100000 in
theorem postingsOrder_lifted (os : Os) (started : os.Started) (H : Type) (enc : TypeId × Value → H) (F : Stop.Interp) :
    ReturnsInHanded {} Tryz.checked os 7 .any ((OpenSpec.ofChange Rows.postingsOrderSpec).preRow enc Tryz.prog Tryz.f7 Rows.postingsOrderRow.domain false Rows.postingsOrderRow.laid) (((OpenSpec.ofChange Rows.postingsOrderSpec).at F).post enc Tryz.prog Tryz.f7 false true false false) := by
  obtain ⟨places, hx⟩ := postingsOrder_reads os enc
  refine returnsInHanded_of_row (C := Tryz.checked) (s := OpenSpec.ofChange Rows.postingsOrderSpec) ownKn started (by kernel_rfl) Tryz.func7
    (witness_row_at (enc := enc) (C := Tryz.checked) false (laidWorld os) #[.slice none 0 0, .slice none 0 0, .int .i64 0] rfl (by kernel_rfl) (by kernel_rfl) (by kernel_rfl)
      (OpenSpec.preRow_of_cond 8 hx (by kernel_rfl) (fun k hk => by cases hk) (by kernel_rfl) (postingsOrder_met os))) ?_
  intro W base args ds gs before hval hW _ _ _ hL _ _
  exact postingsOrder_contract H enc W base args ds gs before hval hW hL

theorem postingsOrder_said : Rows.PostingsOrderSaid :=
  OpenClaim.holds_of_cond 7 Tryz.f7 rfl rfl rfl rfl rfl rfl rfl ⟨rfl, rfl, rfl, rfl, rfl⟩ rfl rfl rfl rfl rfl (by kernel_rfl) Tryz.func7 (by kernel_rfl)
    (of_decide_eq_true (by kernel_rfl)) (by unfold Func.isWrapper; first | (rw [if_pos (by decide +kernel)]; kernel_rfl) | (rw [if_neg (by decide +kernel)]; exact ⟨rfl, rfl⟩))
    (fun os started H enc _ F => by rw [OpenClaim.pre_eq_preRow]; exact postingsOrder_lifted os started H enc F)

theorem postingsOrder_plain (f : FuncId) (fn : Func) (hf : Tryz.pinned.checked.prog.funcNamed "manometer/manometerlaw10.PostingsOrder" = some f) (hfn : Tryz.pinned.checked.prog.funcs[f]? = some fn) :
    true = Tryz.pinned.checked.prog.looks [] ∧ ∀ (j : Nat) t, fn.params[j]? = some t → Tryz.pinned.checked.prog.wantsStandIn t = false := by
  obtain rfl : f = 7 := Option.some.inj ((show Tryz.prog.funcNamed "manometer/manometerlaw10.PostingsOrder" = some 7 by kernel_rfl).symm.trans hf) |>.symm
  obtain rfl : fn = Tryz.f7 := (Option.some.inj (Tryz.func7.symm.trans hfn)).symm
  refine ⟨by kernel_rfl, fun j t ht => ?_⟩
  rw [Tryz.params7] at ht
  have hm : t = 61 ∨ t = 45 ∨ t = 3 := by simpa using Array.mem_of_getElem? ht
  rcases hm with rfl | rfl | rfl
  · exact (show Tryz.prog.wantsStandIn 61 = false by kernel_rfl)
  · exact (show Tryz.prog.wantsStandIn 45 = false by kernel_rfl)
  · exact (show Tryz.prog.wantsStandIn 3 = false by kernel_rfl)

theorem postingsOrder_card : Rows.PostingsOrderCardSaid :=
  Claim7.holds_tied_plain_at .later [] _ _ _ _ postingsOrder_said (fun _ h => by cases h) (by kernel_rfl) (fun _ h => by cases h) postingsOrder_row_tie rfl ⟨rfl, rfl⟩ (by kernel_rfl) rfl postingsOrder_plain (by kernel_rfl)
#print axioms postingsOrder_card

end Go.Proofs.YtjgappbomohlcaaGreatDoor
