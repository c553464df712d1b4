/-
  Bytes as letters: the plain answers' own.
-/
import Derived.Test.YtmgjlldccmgpcaaDoorRa
namespace Go.Proofs.YtmgjlldccmgpcaaDoor
set_option linter.unusedVariables false
set_option linter.unusedSimpArgs false
open Go.RowKit
/-- How many bits are left. -/
def leftN (m q : Nat) : Nat := 6 * (m - q)
theorem left_is (m q : Nat) : leftN m q = 6 * (m - q) := rfl
/-- What the loop over the letters holds. -/
def ArmRel (w : World) (m : Nat) (Q : List Bool) (s3 s4 : Value) (wr : World) : Prop := ∃ (q : Nat) (A3 : Option Addr) (c3 : Nat), q ≤ m ∧ s3 = .slice A3 (leftN m q) c3 ∧ leftN m q ≤ c3 ∧ s4 = .string ⟨(lettersOf armL (digs 6 q Q)).toArray⟩ ∧ Rd wr A3 ((Q.drop (6 * q)).map Value.bool) ∧ RowKit.Below w.heap.size w wr
def lenV : Value → Nat
  | .slice _ n _ => n
  | _ => 0
section
set_option maxHeartbeats 1600000
set_option maxRecDepth 100000
theorem rarmor_any (w : World) (A : Option Addr) (ca n : Nat) (xs : List UInt8) (hn : xs.length = n) (hx : Rd w A (xs.map Bv)) (hl : n ≤ 2000) :
    Calls Tryd.prog 31 #[.slice A n ca] w fun e w' => e = .returned (.string ⟨(armS 6 armL xs).toArray⟩) ∧ Below w.heap.size w w' := by
  obtain ⟨i0, hi, hz0, hz1, hz2⟩ := info_parts infoBool
  have hb := rbits_any w A ca (8 * n) xs hx (by omega) (by omega)
  have hrl := rb_length xs
  rw [List.take_of_length_le (by omega)] at hb
  obtain ⟨F, hF⟩ : ∃ F, F = fillN 6 (8 * n) := ⟨_, rfl⟩
  have hF6 : F < 6 := by rw [hF]; unfold fillN; omega
  have hfs : (8 * n + F) % 6 = 0 := by rw [hF]; unfold fillN; omega
  have hfm : ∀ j, j < F → (8 * n + j) % 6 ≠ 0 := fun j hj => by rw [hF] at hj; unfold fillN at hj; omega
  obtain ⟨m, hm⟩ : ∃ m, 8 * n + F = 6 * m := ⟨(8 * n + F) / 6, by omega⟩
  obtain ⟨Q, hQ⟩ : ∃ Q, Q = rb xs ++ List.replicate F false := ⟨_, rfl⟩
  have hQl : Q.length = 6 * m := by rw [hQ, List.length_append, List.length_replicate, hrl, hn]; exact hm
  have harm : armS 6 armL xs = lettersOf armL (digs 6 m Q) := by
    have : fillB 6 (rb xs) = Q := by rw [hQ]; unfold fillB; rw [hrl, hn, hF]
    unfold armS armB
    rw [this, hQl, Nat.mul_div_cancel_left _ (by decide)]
  rw [harm]
  have hrl2 : (rb xs).length = 8 * n := by rw [hrl, hn]
  obtain ⟨row, hrow⟩ : ∃ row, row = rb xs := ⟨_, rfl⟩
  rw [← hrow] at hb hrl2 hQ
  obtain ⟨N, hN⟩ : ∃ N, N = 8 * n := ⟨_, rfl⟩
  have hni : (8 : Int) * (n : Int) = (N : Int) := by omega
  have hN16 : N ≤ 16000 := by omega
  rw [← hN] at hb hrl2 hfm hfs hm
  rw [hn] at hb
  clear hN
  have HB := Lib.hid hb; have HR := Lib.hid hrl2; have HQ := Lib.hid hQ; have HQL := Lib.hid hQl; have HFM := Lib.hid hfm; have HFS := Lib.hid hfs; have HM := Lib.hid hm; have HI := Lib.hid (And.intro hi (And.intro hz0 (And.intro hz1 hz2)))
  clear hb hrl hrl2 hF harm hQ hQl hfm hfs hm hrow hi hz0 hz1 hz2 hn
  go_enter Tryd.func31, Tryd.ntmps31
  go_wp2_with fail
  refine HB.out.mono ?_
  rintro e w1 ⟨v, rfl, hown, hb1⟩
  have hown0 : w1.ownsRow w.heap.size 4 1 v (row ++ List.replicate 0 false).length ((row ++ List.replicate 0 false).map Value.bool) := by rw [List.replicate_zero, List.append_nil]; exact hown
  have HO0 := Lib.hid hown0; have HB1 := Lib.hid hb1; clear hown hown0 hb1 hni
  obtain ⟨hi, hz0, hz1, hz2⟩ := HI.out
  go_wp2
  go_loopw [3] (fun s3 wr => ∃ (j c3 : Nat) (A3 : Option Addr), s3 = .slice A3 (N + j) c3 ∧ j ≤ F ∧ Aside (wr.ownsRow w.heap.size 4 1 s3 (row ++ List.replicate j false).length ((row ++ List.replicate j false).map Value.bool)) ∧ Aside (RowKit.Below w.heap.size w wr)) (fun s3 _ => N + F - lenV s3)
  case atStart =>
    obtain ⟨A3, c3, hv, -⟩ := own_rd HO0.out
    refine ⟨0, c3, A3, ?_, by omega, HO0.out, HB1.out⟩
    rw [hv, List.replicate_zero, List.append_nil, HR.out, Nat.add_zero]
  case round =>
    obtain ⟨j, c3, A3, rfl, hj, OW, BW⟩ := hrel
    have hlen : (row ++ List.replicate j false).length = N + j := by rw [List.length_append, List.length_replicate, HR.out]
    by_cases hlt : j < F
    · have hne : (((N : Int) + (j : Int)) % 6 != 0) = true := by rw [bne_iff_ne]; have := HFM.out j hlt; omega
      have hne2 : (((N : Int) + (j : Int)).tmod 6 != 0) = true := by rw [Int.tmod_eq_emod_of_nonneg (by omega)]; exact hne
      have hst : row ++ List.replicate (j + 1) false = (row ++ List.replicate j false) ++ [false] := by rw [List.replicate_succ', List.append_assoc]
      have HST := Lib.hid hst; have HLEN := Lib.hid hlen; clear hst hlen
      have hws : w.heap.size ≤ wr.heap.size := BW.out.size
      have how := OW.out
      rw [HLEN.out] at how
      have HOW := Lib.hid how; clear how
      go_wp2_with (first
        | (at_builtin; go_must (refine wpList_append_own _ rfl _ _ 32 rfl w.heap.size 4 i0 (.bool false) 1 1 Tryd.underlying32 hi hz0 hz1 hz2 rfl (by decide) _ (N + j) ((row ++ List.replicate j false).map Value.bool) rfl (HOW.out.alloc _) ⟨wr.heap.size, 0, none⟩ 1 1 [.bool false] rfl rfl (World.news_of_block (heap_alloc_new _ _)) (by simp [Value.oneCell']) (by unfold maxLen; omega) (by omega) (by rw [World.size_alloc]; omega) ?_; intro v5 w5 own5 grow5 _))
        | fail)
      have hb5 : RowKit.Below w.heap.size w w5 := (BW.out.alloc BW.out.size _).grown grow5 (by rw [World.size_alloc]; omega) (fun k h => (HOW.out.lt k h).1)
      obtain ⟨A5, c5, hv5, -⟩ := own_rd own5
      subst hv5
      have hown5 : w5.ownsRow w.heap.size 4 1 (.slice A5 (N + j + 1) c5) (row ++ List.replicate (j + 1) false).length ((row ++ List.replicate (j + 1) false).map Value.bool) := by
        rw [HST.out, List.length_append, List.map_append, HLEN.out]; exact own5
      have HO5 := Lib.hid hown5; have HB5 := Lib.hid hb5; clear hown5 hb5 own5 grow5
      go_wp2
      go_roundw
      case rel => exact ⟨j + 1, c5, A5, by first | rfl | (rw [Nat.add_assoc]), by omega, (show Aside _ from HO5.out), (show Aside _ from HB5.out)⟩
      case measure => simp [lenV]; omega
    · obtain rfl : j = F := by omega
      have heq : (((N : Int) + (j : Int)) % 6 != 0) = false := by rw [bne_eq_false_iff_eq]; have := HFS.out; omega
      have heq2 : (((N : Int) + (j : Int)).tmod 6 != 0) = false := by rw [Int.tmod_eq_emod_of_nonneg (by omega)]; exact heq
      rw [← HQ.out] at OW
      have how := OW.out
      obtain ⟨A4, c4, e4, hr4, -, hc4, hm4⟩ := own_rd how
      have ea : A3 = A4 := by injection e4
      have ec : c3 = c4 := by injection e4
      rw [← ea] at hr4
      have hcm : N + j ≤ c3 := by rw [ec, HM.out, ← HQL.out]; exact hc4
      have hrf : Rd wr A3 ((Q.drop (6 * 0)).map Value.bool) := by rw [Nat.mul_zero, List.drop_zero]; exact hr4
      have hs0 : (Value.slice A3 (N + j) c3) = .slice A3 (6 * (m - 0)) c3 := by rw [HM.out, Nat.sub_zero]
      rw [hs0]
      have HRF := Lib.hid hrf; have HBW := Lib.hid BW.out
      have hm3 : m ≤ 2800 := by have := HM.out; omega
      have hc6 : 6 * (m - 0) ≤ c3 := by have := HM.out; omega
      obtain ⟨wo, hwo⟩ : ∃ wo, wo = wr := ⟨_, rfl⟩
      rw [← hwo] at HRF HBW
      rw [← hwo]
      clear hr4 hrf how e4 ea ec hc4 hm4 OW BW hs0 hcm hj hlt hlen hwo heq2 HFM HFS hi hz0 hz1 hz2
      have heq3 : (((6 * (m - 0) : Nat) : Int) % 6 != 0) = false := by rw [bne_eq_false_iff_eq]; omega
      go_wp2
      go_loopw [3, 4] (fun s3 s4 wq => ArmRel w m Q s3 s4 wq) (fun s3 _ _ => lenV s3)
      case atStart => exact ⟨0, A3, c3, by omega, rfl, hc6, rfl, HRF.out, HBW.out⟩
      case round =>
        clear HRF HBW hc6 heq3
        obtain ⟨q, A3, c3, hq, rfl, hLA, rfl, RD, BW⟩ := hrel
        obtain ⟨L, hL'⟩ : ∃ L, L = leftN m q := ⟨_, rfl⟩
        have hLc := hLA
        rw [← hL'] at hLc ⊢
        have hL : L = 6 * (m - q) := hL'
        clear hL'
        have hal : (lettersOf armL (digs 6 q Q)).length ≤ 4000000 := by rw [lettersOf_length, digs_length]; omega
        by_cases hlt : q < m
        · have hL6 : 6 ≤ L := by omega
          have hL0 : (0 : Int) < (L : Int) := by omega
          have hc6 : (6 : Int) ≤ (c3 : Int) := by omega
          have hc6' : 6 ≤ c3 := by omega
          have hL2 : L - 6 = leftN m (q + 1) := by unfold leftN; omega
          have hl6 : ((Q.drop (6 * q)).take 6).length = 6 := by rw [List.length_take, List.length_drop, HQL.out]; omega
          have hc := natnum_any wr A3 c3 ((Q.drop (6 * q)).take 6) (by rw [List.map_take]; exact RD.take 6) (by rw [hl6]; decide)
          rw [hl6] at hc
          have hdg := digs_succ 6 q Q
          have hd64 := natOf_take_lt Q 6 (6 * q)
          generalize natOf ((Q.drop (6 * q)).take 6) = d at hc hdg hd64
          have hd64' : d < 64 := hd64
          have hls := fun u => letter_slice64 u d hd64'
          have hst : lettersOf armL (digs 6 (q + 1) Q) = lettersOf armL (digs 6 q Q) ++ [ltr armL d] := by rw [hdg, lettersOf_snoc]
          have hadd := fun u => one_letter u (lettersOf armL (digs 6 q Q)) (ltr armL d) hal
          rw [← hst] at hadd
          have HC := Lib.hid hc; have HL := Lib.hid hL; have HL2 := Lib.hid hL2; clear hc hL hL2 hLA hdg hst hl6 hd64
          go_wp2_with fail
          refine HC.out.mono ?_
          rintro e w5 ⟨rfl, hb5⟩
          have hrd5 := RD.below hb5
          have hB5 := BW.trans (hb5.mono BW.size)
          have HRD5 := Lib.hid hrd5; have HB5 := Lib.hid hB5; clear hrd5 hB5 hb5
          go_wp2_with (first
            | (refine wpList_slice_any (o := ⟨some 31, _, _, _, _, _⟩) ?_ 32 (.tmp 30) (some (.const (.int .i64 6))) none ?_ 4 Tryd.underlying32 (by kernel_rfl) A3 L c3 6 L ?_ ?_ ?_ hL6 hLc ?_; rfl; rfl; rfl; exact .inl rfl; exact .inr ⟨rfl, rfl⟩; intro A6 hA6 hrd6)
            | fail)
          have hr6 := hrd6 _ (by rw [List.length_map, List.length_drop, HQL.out]; have := HL.out; omega) HRD5.out
          rw [← List.map_drop, List.drop_drop] at hr6
          have HR6 := Lib.hid hr6; clear hr6 hrd6 hA6
          go_wp2
          go_roundw
          case rel => exact ⟨q + 1, A6, c3 - 6, by omega, by rw [← HL2.out], by rw [← HL2.out]; omega, rfl, HR6.out, HB5.out⟩
          case measure => simp [lenV]; omega
        · obtain rfl : q = m := by omega
          have hL0 : L = 0 := by omega
          clear hL hLA
          subst hL0
          clear hLc hq hlt
          go_wp2
          go_ret
          exact ⟨rfl, BW⟩
end
end Go.Proofs.YtmgjlldccmgpcaaDoor
