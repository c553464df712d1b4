/-
  The frame that bytes begin with, by the plain answers.
-/
import Derived.Test.YtnmbjhpecblioaaGreatDoorFg
import Derived.Test.YtnmbjhpecblioaaGreatDoorFq
import Derived.Test.YtnmbjhpecblioaaGreatDoorEq
import Derived.Deep.DeepCutAuto
import Derived.Deep.CutRange
import Derived.Deep.RegionHeld3
namespace Go.Proofs.YtnmbjhpecblioaaGreatDoor
set_option linter.unusedVariables false
set_option linter.unusedSimpArgs false
open Go.RowKit

section
set_option maxHeartbeats 1600000
set_option maxRecDepth 100000
theorem rsum_len (A : Option Addr) (ca len : Nat) (xs : List UInt8) (w : World) (hlen : xs.length = len) (hx : Rd w A (xs.map Bv)) (hlx : len ≤ 9223372036854775807) :
    Calls Tryz.prog 88 #[.slice A len ca] w fun e w' => e = .returned (.int .u32 (crc 0 xs : Nat)) ∧ w = w' := by
  subst hlen; exact rsum_any A ca xs w hx hlx
theorem join_one_len (w : World) (A : Option Addr) (ca n : Nat) (xs : List UInt8) (hn : xs.length = n) (hx : Rd w A (xs.map Bv)) (hl : xs.length ≤ 140737488351232) :
    Calls Tryz.prog 58 #[.slice (some ⟨w.heap.size, 0, none⟩) 1 1] (w.alloc (.cells #[.slice A n ca] 29)) fun e w' =>
      ∃ v, e = .returned v ∧ w'.ownsRow (w.heap.size + 1) 5 1 v xs.length (xs.map Bv) ∧ Below w.heap.size w w' := by
  subst hn; exact join_one w A ca xs hx hl
theorem rget_any (A : Option Addr) (ca : Nat) (xs : List UInt8) (w : World) (hx : Rd w A (xs.map Bv)) (hc : xs.length ≤ ca) (hl : xs.length ≤ 140737488351232) (hca : ca ≤ 9223372036854775807) :
    Calls Tryz.prog 71 #[.slice A xs.length ca] w fun e w' => ∃ v, e = .returned (.tuple #[v, .int .i64 ((getF xs).2.1 : Nat), .int .i64 ((getF xs).2.2 : Nat)]) ∧
      w'.ownsRow w.heap.size 5 1 v (getF xs).1.length ((getF xs).1.map Bv) ∧ Below w.heap.size w w' := by
  have hgf : getF xs = getF xs := rfl
  conv at hgf => rhs; unfold getF
  have hlt := uvS_lt (k := 0) (n := 0) (l := xs) (by omega) (by decide)
  have hle := uvS_le xs 0 0
  obtain ⟨r, hr⟩ : ∃ r, r = uvS 0 0 xs := ⟨_, rfl⟩
  rw [← hr] at hgf hlt hle
  obtain ⟨n, k, c⟩ := r
  have HR := Lib.hid hr; clear hr
  simp only at hgf hlt hle
  go_enter Tryz.func71, Tryz.ntmps71
  go_wp2_with fail
  refine (ruvarint_any A ca xs w hx (by omega)).mono ?_
  rintro e w1 ⟨rfl, rfl⟩
  rw [← HR.out]
  simp only [uvT]
  by_cases h1 : c ≠ 0
  · rw [if_pos h1] at hgf
    have HG := Lib.hid hgf; clear hgf
    have h1' : ((c : Int) != 0) = true := by rw [bne_iff_ne]; omega
    clear h1
    go_wp2
    go_ret3
    exact ⟨_, by rw [HG.out]; rfl, by rw [HG.out]; exact World.ownsRow_nil _ _ _ _, Below.refl _ _⟩
  · have hc0 : c = 0 := by omega
    subst hc0
    rw [if_neg h1] at hgf
    clear h1
    by_cases h2 : 1048576 < n
    · rw [if_pos h2] at hgf
      have HG := Lib.hid hgf; clear hgf
      have h2' : decide (1048576 < (n : Int)) = true := by simp; omega
      clear h2
      go_wp2
      go_ret3
      exact ⟨_, by rw [HG.out]; rfl, by rw [HG.out]; exact World.ownsRow_nil _ _ _ _, Below.refl _ _⟩
    · rw [if_neg h2] at hgf
      have h2' : (n : Int) ≤ 1048576 := by omega
      clear h2
      by_cases h3 : xs.length < k + n + 4
      · rw [if_pos h3] at hgf
        have HG := Lib.hid hgf; clear hgf
        have h3' : decide ((xs.length : Int) < (k : Int) + (n : Int) + 4) = true := by simp; omega
        clear h3
        go_wp2
        go_ret3
        exact ⟨_, by rw [HG.out]; rfl, by rw [HG.out]; exact World.ownsRow_nil _ _ _ _, Below.refl _ _⟩
      · rw [if_neg h3] at hgf
        have h3' : (k : Int) + (n : Int) + 4 ≤ (xs.length : Int) := by omega
        clear h3
        have hE : k + n + 4 ≤ xs.length := by omega
        obtain ⟨b, off, -, -, -, -, rfl, -⟩ := four_at (E := k + n) hx hE
        have hml := maskN_lt (crc 0 (xs.take (k + n)))
        have hcl := crc_lt (s := 0) (by decide) (xs.take (k + n))
        have htl : (xs.take (k + n)).length = k + n := by rw [List.length_take]; omega
        have hdl : ((xs.drop k).take n).length = n := by rw [List.length_take, List.length_drop]; omega
        have h4l : ((xs.drop (k + n)).take 4).length = 4 := by rw [List.length_take, List.length_drop]; omega
        have rdt := hx.bytes_take (k + n)
        have rdd : Rd w (some ⟨b, off + k, none⟩) (((xs.drop k).take n).map Bv) := by
          rw [List.map_take, List.map_drop]; exact (hx.dropf k).take n
        have rd4 : Rd w (some ⟨b, off + (k + n), none⟩) (((xs.drop (k + n)).take 4).map Bv) := by
          rw [List.map_take, List.map_drop]; exact (hx.dropf (k + n)).take 4
        obtain ⟨ys, hys⟩ : ∃ ys, ys = xs.take (k + n) := ⟨_, rfl⟩
        obtain ⟨q4, hq4⟩ : ∃ q4, q4 = (xs.drop (k + n)).take 4 := ⟨_, rfl⟩
        obtain ⟨zs, hzs⟩ : ∃ zs, zs = (xs.drop k).take n := ⟨_, rfl⟩
        rw [← hys] at rdt htl hgf hcl hml
        rw [← hq4] at rd4 hgf h4l
        rw [← hzs] at rdd hgf hdl
        obtain ⟨sm, hsm⟩ : ∃ sm, sm = crc 0 ys := ⟨_, rfl⟩
        obtain ⟨mk, hmk⟩ : ∃ mk, mk = maskN sm := ⟨_, rfl⟩
        rw [← hsm, ← hmk] at hml hgf
        rw [← hsm] at hcl
        have HG := Lib.hid hgf; clear hgf
        have HDL := Lib.hid hdl; clear hdl
        have HTL := Lib.hid htl; clear htl
        have H4L := Lib.hid h4l; clear h4l
        have HSM := Lib.hid hsm; clear hsm
        have HMK := Lib.hid hmk; clear hmk
        have HCL := Lib.hid hcl; clear hcl
        have HML := Lib.hid hml; clear hml
        clear hys hq4 hzs
        obtain ⟨E, hEE⟩ : ∃ E, E = k + n := ⟨_, rfl⟩
        have hsum : (k : Int) + (n : Int) = (E : Int) := by omega
        rw [← hEE] at HTL HG rd4 hE
        rw [hsum] at h3'
        have HEE := Lib.hid hEE; clear hEE
        have f0 : (0 : Int) ≤ (E : Int) := by omega
        have f1 : (E : Int) ≤ (E : Int) + 4 := by omega
        have f2 : (E : Int) + 4 ≤ (ca : Int) := by omega
        have f3 : (E : Int) ≤ (ca : Int) := by omega
        have f4 : (0 : Int) ≤ (E : Int) + 4 := by omega
        have f5 : ca ≠ E := by omega
        have f6 : IntKind.i64.wrap ((E : Int) + 4) = (E : Int) + 4 := IntWalk.i64_in _ (by omega)
        have f7 : ((E : Int) + 4).toNat = E + 4 := by omega
        have f8 : E + 4 - E = 4 := by omega
        go_upto_region 9 with (fail)
        go_cut [41] (fun s41 wx => s41 = .bool (!decide (q4 = low4 mk)) ∧ Below w.heap.size w wx)
        case first =>
          go_region_held3 (fun _ => True) (exact trivial) (first
            | (go_at_call 88; go_must (refine (rsum_len _ _ _ ys _ HTL.out (by exact rdt) (by have := HTL.out; omega)).mono ?_; rintro e w4 ⟨rfl, rfl⟩; rw [← HSM.out]))
            | (go_at_call 87; go_must (refine (rmask_any sm _ HCL.out).mono ?_; rintro e w5 ⟨rfl, rfl⟩; rw [← HMK.out]))
            | (go_at_call 86; go_must (refine (low_any mk _ HML.out).mono ?_; rintro e w6 ⟨A6, c6, rfl, rd6, hb6⟩; have rd46 : Rd w6 (some ⟨b, off + E, none⟩) (q4.map Bv) := Rd.below (by exact rd4) hb6; rw [low4_length]))
            | (go_at_call 50; go_must (refine (equal_at _ _ _ _ _ _ q4 (low4 mk) _ H4L.out (low4_length _) (by exact rd46) (by exact rd6) (by rw [H4L.out]; decide) (by rw [low4_length]; decide)).mono ?_; rintro e w7 ⟨rfl, nn, rfl⟩)))
          all_goals
            go_wp2_with fail
            go_meet
            exact ⟨rfl, below_drewN (show Below w.heap.size w w6 from ⟨hb6.os, hb6.tape, hb6.output, hb6.size, hb6.block⟩) nn⟩
        case rest =>
          obtain ⟨rfl, hbx⟩ := hcut
          clear f1 f2 f4 f5 f6 f7 f8 rdt rd4
          have rdx := rdd.below hbx
          clear rdd
          by_cases h5 : q4 = low4 mk
          · have hg := HG.out
            rw [if_pos h5] at hg
            rw [decide_eq_true h5]
            have HG2 := Lib.hid hg; clear hg HG h5
            have g1 : (k : Int) ≤ (E : Int) := by omega
            have g2 : E - k = n := by have := HEE.out; omega
            go_wp2_with fail
            refine (join_one_len wc _ _ n zs HDL.out rdx (by have := HDL.out; omega)).mono ?_
            rintro e w3 ⟨v, rfl, hown, hb3⟩
            go_wp2
            go_ret3
            refine ⟨v, by rw [HG2.out]; rfl, ?_, hbx.trans (hb3.mono hbx.size)⟩
            rw [HG2.out]
            exact hown.lower (by have := hbx.size; omega)
          · have hg := HG.out
            rw [if_neg h5] at hg
            rw [decide_eq_false h5]
            have HG2 := Lib.hid hg; clear hg HG h5
            go_wp2
            go_ret3
            exact ⟨_, by rw [HG2.out]; rfl, by rw [HG2.out]; exact World.ownsRow_nil _ _ _ _, hbx⟩
theorem rget_len (A : Option Addr) (ca len : Nat) (xs : List UInt8) (w : World) (hlen : xs.length = len) (hx : Rd w A (xs.map Bv)) (hc : len ≤ ca) (hl : len ≤ 140737488351232) (hca : ca ≤ 9223372036854775807) :
    Calls Tryz.prog 71 #[.slice A len ca] w fun e w' => ∃ v, e = .returned (.tuple #[v, .int .i64 ((getF xs).2.1 : Nat), .int .i64 ((getF xs).2.2 : Nat)]) ∧
      w'.ownsRow w.heap.size 5 1 v (getF xs).1.length ((getF xs).1.map Bv) ∧ Below w.heap.size w w' := by
  subst hlen
  exact rget_any A ca xs w hx hc hl hca
end
end Go.Proofs.YtnmbjhpecblioaaGreatDoor
