/-
  Quote: the program's own.
-/
import Derived.Test.YtinjdlplbficiaaGreatDoorUq
namespace Go.Proofs.YtinjdlplbficiaaGreatDoor
set_option linter.unusedVariables false
set_option linter.unusedSimpArgs false
open Go.RowKit
theorem escP_le (c : UInt8) : (escP c).length ≤ 2 := by
  unfold escP
  by_cases h1 : c = 10
  · rw [if_pos h1]; simp
  · rw [if_neg h1]
    by_cases h2 : c = 34 ∨ c = 92
    · rw [if_pos h2]; simp
    · rw [if_neg h2]; simp
theorem quoteP_le (s : Bs) : (quoteP s).length ≤ 2 * s.length + 2 := by
  unfold quoteP
  have : (s.flatMap escP).length ≤ 2 * s.length := by
    induction s with
    | nil => simp
    | cons c r ih => rw [List.flatMap_cons, List.length_append, List.length_cons]; have := escP_le c; omega
  simp only [List.length_cons, List.length_append, List.length_nil]; omega
theorem lit_size (l : Bs) : (mkB l).size = l.length := mkB_size l
section
set_option maxHeartbeats 1600000
set_option maxRecDepth 100000
theorem quote_any (s : ByteArray) (w : World) (hl : s.size ≤ 1000000) : Calls Tryz.prog 22 #[.string s] w fun e w' =>
    e = .returned (.string (mkB (quoteP (bl s)))) ∧ Below w.heap.size w w' := by
  obtain ⟨R, hR⟩ : ∃ R, R = quoteP (bl s) := ⟨_, rfl⟩
  rw [← hR]
  have hst : R = [34] ++ (((bl s).drop 0).flatMap escP ++ [34]) := by rw [hR]; rfl
  have HST := Lib.hid hst; clear hst hR
  have hg := grow_any (s.size + 2) w (by omega)
  rw [Int.natCast_add] at hg
  have HG := Lib.hid hg; clear hg
  go_enter Tryz.func22, Tryz.ntmps22
  go_wp2_with fail
  refine HG.out.mono ?_
  rintro e w1 ⟨rfl, hbl, hb⟩
  have hw := wb_any w.heap.size w.heap.size 34 [] w1 hbl hb.size (by omega) (by simp)
  have HB := Lib.hid hb; clear hb
  have HW := Lib.hid hw; clear hw hbl
  go_wp2_with fail
  refine HW.out.mono ?_
  rintro e w2 ⟨rfl, hbl, hb⟩
  have HB2 := Lib.hid (HB.out.trans hb); clear hb
  have HBL := Lib.hid hbl; clear hbl
  go_wp2
  go_loopw [12] (fun s12 wr => ∃ (k : Nat) (acc : Bs), s12 = .int .i64 k ∧ k ≤ s.size ∧ acc.length ≤ 2 * k + 1 ∧ Aside (Bld w.heap.size w.heap.size acc wr) ∧ Aside (RowKit.Below w.heap.size w wr) ∧ Aside (R = acc ++ (((bl s).drop k).flatMap escP ++ [34]))) (fun s12 _ => s.size - (intOf s12).toNat)
  case atStart => exact ⟨0, [34], rfl, by omega, by simp, HBL.out, HB2.out, HST.out⟩
  case round =>
    obtain ⟨k, acc, rfl, hk, hal, BL, BW, E⟩ := hrel
    have k0 : (0 : Int) ≤ (k : Int) := by omega
    by_cases hlt : k < s.size
    · have k1 : (k : Int) < (s.size : Int) := by omega
      have hix := fun (u : World) => run_index_s u s .i64 k hlt
      have hd := drop_byte hlt
      have hc := byN_lt s k
      have HE := Lib.hid (E.out.trans (by rw [hd, List.flatMap_cons])); clear E hd
      generalize byN s k = c at hix hc HE
      by_cases h2 : c = 10
      · subst h2
        have hw := ws_any w.heap.size w.heap.size ⟨#[92, 110]⟩ acc wr BL.out BW.out.size (by show acc.length + 2 ≤ _; omega)
        have hst : R = (acc ++ bl ⟨#[92, 110]⟩) ++ (((bl s).drop (k + 1)).flatMap escP ++ [34]) := by
          rw [HE.out, show escP (UInt8.ofNat 10) = bl ⟨#[92, 110]⟩ from rfl]; simp
        have HST2 := Lib.hid hst; clear hst HE
        have HW := Lib.hid hw; clear hw
        go_wp2_with (first | (go_at_call 18; refine HW.out.mono ?_; rintro e w3 ⟨rfl, hbl, hb⟩; have HB3 := Lib.hid hb; clear hb; have HBL3 := Lib.hid hbl; clear hbl) | fail)
        go_roundw
        case rel => exact ⟨k + 1, acc ++ bl ⟨#[92, 110]⟩, by go_num, by omega, by rw [List.length_append]; show acc.length + 2 ≤ _; omega, (show Aside _ from HBL3.out), (show Aside _ from BW.out.trans HB3.out), (show Aside _ from HST2.out)⟩
        case measure => simp [intOf]; omega
      · have g2 : ((c : Int) == 10) = false := beq_eq_false_iff_ne.2 (by omega)
        by_cases h4 : c = 34 ∨ c = 92
        · have hst : R = (acc ++ [UInt8.ofNat 92] ++ [UInt8.ofNat c]) ++ (((bl s).drop (k + 1)).flatMap escP ++ [34]) := by
            rw [HE.out]
            have : escP (UInt8.ofNat c) = [92, UInt8.ofNat c] := by rcases h4 with rfl | rfl <;> rfl
            rw [this]; simp
          have HST2 := Lib.hid hst; clear hst HE
          have hw := wb_any w.heap.size w.heap.size 92 acc wr BL.out BW.out.size (by omega) (by omega)
          have HW := Lib.hid hw; clear hw
          have hw2 := fun (w3 : World) (h : Bld w.heap.size w.heap.size (acc ++ [UInt8.ofNat 92]) w3) (hb : RowKit.Below w.heap.size wr w3) => wb_any w.heap.size w.heap.size c (acc ++ [UInt8.ofNat 92]) w3 h (Nat.le_trans BW.out.size hb.size) hc (by rw [List.length_append, List.length_singleton]; omega)
          have HW2 := Lib.hid hw2; clear hw2
          rcases h4 with rfl | rfl
          all_goals
            go_wp2_with fail
            refine HW.out.mono ?_
            rintro e w3 ⟨rfl, hbl, hb⟩
            have hw3 := HW2.out w3 hbl hb
            have HB3 := Lib.hid (BW.out.trans hb); clear hb hbl
            have HW3 := Lib.hid hw3; clear hw3
            go_wp2_with fail
            refine HW3.out.mono ?_
            rintro e w4 ⟨rfl, hbl, hb⟩
            have HB4 := Lib.hid (HB3.out.trans hb); clear hb
            have HBL4 := Lib.hid hbl; clear hbl
            go_wp2
            go_roundw
            case rel => exact ⟨k + 1, _, by go_num, by omega, by simp only [List.length_append, List.length_cons, List.length_nil]; omega, (show Aside _ from HBL4.out), (show Aside _ from HB4.out), (show Aside _ from HST2.out)⟩
            case measure => simp [intOf]; omega
        · have g3 : ((c : Int) == 34) = false := beq_eq_false_iff_ne.2 (by omega)
          have g4 : ((c : Int) == 92) = false := beq_eq_false_iff_ne.2 (by omega)
          have ne (n : Nat) (hn : n < 256) (h : ¬ c = n) : UInt8.ofNat c ≠ UInt8.ofNat n := fun e => h (by
            have := congrArg UInt8.toNat e; rwa [ofNat_toNat hc, ofNat_toNat hn] at this)
          have n1 : UInt8.ofNat c ≠ 10 := ne 10 (by omega) h2
          have n2 : UInt8.ofNat c ≠ 34 := ne 34 (by omega) (fun h => h4 (.inl h))
          have n3 : UInt8.ofNat c ≠ 92 := ne 92 (by omega) (fun h => h4 (.inr h))
          have hst : R = (acc ++ [UInt8.ofNat c]) ++ (((bl s).drop (k + 1)).flatMap escP ++ [34]) := by
            rw [HE.out]
            have : escP (UInt8.ofNat c) = [UInt8.ofNat c] := by
              unfold escP
              rw [if_neg n1, if_neg]
              rintro (h | h)
              · exact n2 h
              · exact n3 h
            rw [this]; simp
          have HST2 := Lib.hid hst; clear hst HE ne n1 n2 n3
          have hw := wb_any w.heap.size w.heap.size c acc wr BL.out BW.out.size hc (by omega)
          have HW := Lib.hid hw; clear hw h4
          go_wp2_with (first | (go_at_call 20; refine HW.out.mono ?_; rintro e w3 ⟨rfl, hbl, hb⟩; have HB3 := Lib.hid hb; clear hb; have HBL3 := Lib.hid hbl; clear hbl) | fail)
          go_roundw
          case rel => exact ⟨k + 1, acc ++ [UInt8.ofNat c], by go_num, by omega, by rw [List.length_append, List.length_singleton]; omega, (show Aside _ from HBL3.out), (show Aside _ from BW.out.trans HB3.out), (show Aside _ from HST2.out)⟩
          case measure => simp [intOf]; omega
    · obtain rfl : k = s.size := by omega
      have hr : R = acc ++ [UInt8.ofNat 34] := by rw [E.out, ← bl_len, List.drop_length]; simp
      subst hr
      have hw := wb_any w.heap.size w.heap.size 34 acc wr BL.out BW.out.size (by omega) (by omega)
      have HW := Lib.hid hw; clear hw
      go_wp2_with fail
      refine HW.out.mono ?_
      rintro e w3 ⟨rfl, hbl, hb⟩
      have HB3 := Lib.hid (BW.out.trans hb); clear hb
      have hs := str_any _ _ _ _ hbl HB3.out.size
      have HS := Lib.hid hs; clear hs hbl
      go_wp2_with fail
      refine HS.out.mono ?_
      rintro e w4 ⟨rfl, hb⟩
      go_wp2
      go_ret
      exact ⟨rfl, HB3.out.trans hb⟩
end
end Go.Proofs.YtinjdlplbficiaaGreatDoor
