/-
  xxHash64 as the plain answers reckon it, of 32 bytes and more.
-/
import Derived.Test.YtmicbgcdnkomjaaGreatDoorRx
namespace Go.Proofs.YtmicbgcdnkomjaaGreatDoor
set_option linter.unusedVariables false
set_option linter.unusedSimpArgs false
open Go.RowKit

theorem slice_both {P : Program} (ty e : TypeId) (A : Option Addr) (n c l h : Nat) (hu : P.underlying ty = some (.slice e)) (hs : (P.info? e).map (·.size) = some 1) (hl : l ≤ h) (hh : h ≤ c) :
    ∃ A', (∀ u : World, (Instr.sliceAt ty (.slice A n c) (some (.int .i64 (l : Nat))) (some (.int .i64 (h : Nat))) none).run P u = .ok (.slice A' (h - l) (c - l)) u) ∧ ∀ (u : World) (vs : List Value), vs.length ≤ c → Rd u A vs → Rd u A' (vs.drop l) := by
  refine ⟨if c = l then A else A.map (·.add l), fun u => ?_, fun u vs hv hr => ?_⟩
  · cases hq : P.info? e with
    | none => simp [hq] at hs
    | some i =>
      have hsz : i.size = 1 := by simpa [hq] using hs
      have b1 := run_bound (P := P) u l h
      have b2 := run_bound (P := P) u h c
      simp [Instr.sliceAt, Instr.slice, Instr.sliceBounds, run_underlying hu, sizeOf, typeInfo, hq, hsz, b1, b2, hl, hh]
  · split
    · rw [List.drop_eq_nil_of_le (by omega)]
      exact Rd.nil _ _
    · exact hr.drop l
theorem left_q (x n : Nat) (w : World) (hx : x < 18446744073709551616) (h0 : 0 < n) (h1 : n < 64) :
    Calls Tryz.prog 78 #[.int .u64 x, .int .u64 (n : Int)] w fun e w' => e = .returned (.int .u64 (rotl x n : Nat)) ∧ w' = w := (left_any x n w hx h0 h1).mono fun _ _ ⟨he, hw⟩ => ⟨he, hw.symm⟩

section
set_option maxHeartbeats 3200000
set_option maxRecDepth 100000
theorem rxx_large (w : World) (A9 : Option Addr) (c9 n9 : Nat) (xs : List UInt8) (hm9 : xs.length = n9) (hx9 : Rd w A9 (xs.map Bv)) (hmc9 : n9 ≤ c9) (hc9 : c9 ≤ 9223372036854775807) (h32 : 32 ≤ n9) :
    Calls Tryz.prog 48 #[.slice A9 n9 c9] w fun e w' => e = .returned (.int .u64 (xx xs : Nat)) ∧ Below w.heap.size w w' := by
  have HM9 := Lib.hid hm9; clear hm9
  have w1 : IntKind.u64.wrap 25430182151971714518 = 6983438078262162902 := by rw [wrap_u64_eq]; decide +kernel
  have w2 : IntKind.u64.wrap (-11400714785074694791) = 7046029288634856825 := by rw [wrap_u64_eq]; decide +kernel
  have hdec0 : decide ((32 : Int) ≤ (n9 : Int)) = true := by simp; omega
  go_enter Tryz.func48, Tryz.ntmps48
  go_wp2
  have hl0 : LanesAt (w.alloc (.cells #[.int .u64 6983438078262162902, .int .u64 14029467366897019727, .int .u64 0, .int .u64 7046029288634856825] 102)) w.heap.size la0.at := by
    refine ⟨_, heap_alloc_new w _, rfl, fun i hi => ?_⟩
    match i, hi with
    | 0, _ => rfl
    | 1, _ => rfl
    | 2, _ => rfl
    | 3, _ => rfl
  have hb0 : Below w.heap.size w (w.alloc (.cells #[.int .u64 6983438078262162902, .int .u64 14029467366897019727, .int .u64 0, .int .u64 7046029288634856825] 102)) := (Below.refl _ w).alloc (Nat.le_refl _) _
  clear w1 w2 hdec0
  go_loopw [0] (fun s wr => ∃ (j : Nat) (A : Option Addr), 32 * j ≤ n9 ∧ s = .slice A (n9 - 32 * j) (c9 - 32 * j) ∧ Rd w A ((xs.drop (32 * j)).map Bv) ∧ LanesAt wr w.heap.size (lanes la0 j xs).at ∧ Below w.heap.size w wr) (fun s _ => match s with | .slice _ n _ => n | _ => 0)
  case atStart => exact ⟨0, A9, by omega, rfl, hx9, hl0, hb0⟩
  case round =>
    clear hl0 hb0
    obtain ⟨j, A, hj, rfl, hrd, hla, hb⟩ := hrel
    have hlen : (xs.drop (32 * j)).length = n9 - 32 * j := by rw [List.length_drop, HM9.out]
    obtain ⟨n, hmm⟩ : ∃ n, n = n9 - 32 * j := ⟨_, rfl⟩
    obtain ⟨c, hcc⟩ : ∃ c, c = c9 - 32 * j := ⟨_, rfl⟩
    rw [← hmm] at hlen ⊢
    rw [← hcc]
    have hmcq : n ≤ c := by omega
    have hcqq : c ≤ 9223372036854775807 := by omega
    by_cases hlt : 32 ≤ n
    · have hok := lanes_ok la0_ok j xs
      have hst : lanes la0 (j + 1) xs = laneStep (lanes la0 j xs) (xs.drop (32 * j)) := lanes_succ la0 j xs
      have hat := fun (i : Nat) (hi : i < 4) => laneStep_at (lanes la0 j xs) (xs.drop (32 * j)) hi
      rw [← hst] at hat
      have HST := Lib.hid hst; clear hst
      generalize lanes la0 j xs = s0 at *
      generalize hs1 : lanes la0 (j + 1) xs = s1 at *
      have HS1 := Lib.hid hs1; clear hs1
      obtain ⟨ys, hys⟩ : ∃ ys, ys = xs.drop (32 * j) := ⟨_, rfl⟩
      rw [← hys] at hlen hrd hat HST
      have HYS := Lib.hid hys; clear hys
      have HAT := Lib.hid hat; clear hat
      have HLEN := Lib.hid hlen; clear hlen
      have HMM := Lib.hid hmm; clear hmm
      have HCC := Lib.hid hcc; clear hcc
      have hdec : decide ((32 : Int) ≤ (n : Int)) = true := by simp; omega
      go_wp2
      obtain ⟨wo, hwo⟩ : ∃ wo, wo = wr := ⟨_, rfl⟩
      rw [← hwo]
      rw [← hwo] at hla hb
      go_loopw [28] (fun i wq => ∃ k : Nat, k ≤ 4 ∧ i = .int .i64 k ∧ LanesAt wq w.heap.size (fun i => if i < k then s1.at i else s0.at i) ∧ Below w.heap.size w wq) (fun i _ => 4 - (intOf i).toNat)
      case atStart => exact ⟨0, by omega, rfl, hla.congr (fun j _ => if_neg (Nat.not_lt_zero j)), hb⟩
      case round =>
        clear hla hb hwo
        obtain ⟨k, hk, rfl, hla, hb⟩ := hrel
        have hrw := hrd.below hb
        by_cases hlt4 : k < 4
        · have hc0 := hla.get hlt4
          simp only [if_neg (Nat.lt_irrefl k)] at hc0
          have hf0 := hla.free k
          obtain ⟨e, he⟩ : ∃ e, e = 8 * k := ⟨_, rfl⟩
          obtain ⟨e8, he8⟩ : ∃ e8, e8 = e + 8 := ⟨_, rfl⟩
          have hel : e ≤ e8 := by omega
          have hel8 : e8 ≤ n := by omega
          have hee : (8 : Int) * (k : Int) = (e : Int) := by omega
          have hmw2 : IntKind.i64.wrap (e : Int) = (e : Int) := by rw [IntKind.wrap_i64]; omega
          have hee8 : (e : Int) + 8 = (e8 : Int) := by omega
          have hmw3 : IntKind.i64.wrap (e8 : Int) = (e8 : Int) := by rw [IntKind.wrap_i64]; omega
          obtain ⟨A2, hsl, hsr⟩ := slice_both (P := Tryz.prog) 37 5 A n c e e8 Tryz.underlying37 (by kernel_rfl) hel (by omega)
          have hrd2 := hsr wr _ (by rw [List.length_map, HLEN.out]; exact hmcq) hrw
          rw [← List.map_drop] at hrd2
          have hrd3 := hrd2.bytes_take 8
          have hll := leN_take_lt (ys.drop e) 8 (by decide)
          have hsk := hok.at k
          have hak := HAT.out k hlt4
          rw [← he] at hak
          have HAK := Lib.hid hak; clear hak
          have hdl : ((ys.drop e).take 8).length = e8 - e := by rw [List.length_take, List.length_drop, HLEN.out]; omega
          have HDL := Lib.hid hdl; clear hdl
          have HE := Lib.hid he; clear he
          have HE8 := Lib.hid he8; clear he8
          clear hsr hrd2
          generalize s0.at k = x0 at *
          go_wp2
          go_region_with (first
            | ((go_at_call 77; refine (rlow_any wr.drew A2 (c - e) (e8 - e) ((ys.drop e).take 8) HDL.out (show Rd wr.drew _ _ from hrd3) (by have := HE8.out; omega)).mono ?_; rintro _ w' ⟨rfl, rfl⟩))
            | ((go_at_call 76; refine (rround_any x0 (leN ((ys.drop e).take 8)) wr.drew hsk hll).mono ?_; rintro _ w' ⟨rfl, rfl⟩)))
          all_goals
            go_wp2
            go_roundw
            case rel => exact ⟨k + 1, by omega, by go_num, hla.put hlt4 (by rw [if_pos (show k < k + 1 from Nat.lt_succ_self k), HAK.out]) (fun q hq => by
                by_cases h1 : q < k
                · rw [if_pos h1, if_pos (by omega)]
                · rw [if_neg h1, if_neg (by omega)]), (below_drewN hb 1).setCell (Nat.le_refl _) _⟩
            case measure => simp [intOf]; omega
        · have hla4 : LanesAt wr w.heap.size s1.at := hla.congr (fun q hq => (if_pos (by omega)).symm)
          go_wp2_with (first
            | (refine wpList_slice_all (o := ⟨some 47, _, _, _, _, _⟩) ?_ 37 (.tmp 46) (.const (.int .i64 32)) ?_ 5 Tryz.underlying37 (by kernel_rfl) A n c 32 ?_ ?_ hlt hmcq ?_; rfl; rfl; rfl; rfl; intro A2 hsr)
            | fail)
          have hrd2 := hsr w _ (by rw [List.length_map, HLEN.out]; exact hmcq) hrd
          rw [← List.map_drop, HYS.out, List.drop_drop] at hrd2
          have HRD2 := Lib.hid hrd2; clear hrd2 hsr hla
          go_roundw
          case rel => exact ⟨j + 1, A2, by have := HMM.out; omega, by rw [show n9 - 32 * (j + 1) = n - 32 from by have := HMM.out; omega, show c9 - 32 * (j + 1) = c - 32 from by have := HCC.out; omega], by rw [show 32 * (j + 1) = 32 * j + 32 from by omega]; exact HRD2.out, by rw [HS1.out]; exact hla4, hb⟩
          case measure => simp; omega
    · have hje : n9 / 32 = j := by omega
      have hfin := xx_large HM9.out h32
      rw [hje] at hfin
      have hdec : decide ((32 : Int) ≤ (n : Int)) = false := by simp; omega
      have HMM := Lib.hid hmm; clear hmm
      have HCC := Lib.hid hcc; clear hcc
      clear hje
      have hok := lanes_ok la0_ok j xs
      obtain ⟨s9, hs9⟩ : ∃ s9, s9 = lanes la0 j xs := ⟨_, rfl⟩
      rw [← hs9] at hla hok hfin
      clear hs9
      have c0 := hla.get (i := 0) (by decide)
      have c1 := hla.get (i := 1) (by decide)
      have c2 := hla.get (i := 2) (by decide)
      have c3 := hla.get (i := 3) (by decide)
      rw [La.at0] at c0
      rw [La.at1] at c1
      rw [La.at2] at c2
      rw [La.at3 s9 0] at c3
      have R0 := Lib.hid (show ∀ u, Calls Tryz.prog 78 #[.int .u64 (s9.a : Nat), .int .u64 1] u fun e w' => e = .returned (.int .u64 (rotl s9.a 1 : Nat)) ∧ w' = u from fun u => left_q s9.a 1 u hok.a (by decide) (by decide))
      have R1 := Lib.hid (show ∀ u, Calls Tryz.prog 78 #[.int .u64 (s9.b : Nat), .int .u64 7] u fun e w' => e = .returned (.int .u64 (rotl s9.b 7 : Nat)) ∧ w' = u from fun u => left_q s9.b 7 u hok.b (by decide) (by decide))
      have R2 := Lib.hid (show ∀ u, Calls Tryz.prog 78 #[.int .u64 (s9.c : Nat), .int .u64 12] u fun e w' => e = .returned (.int .u64 (rotl s9.c 12 : Nat)) ∧ w' = u from fun u => left_q s9.c 12 u hok.c (by decide) (by decide))
      have R3 := Lib.hid (show ∀ u, Calls Tryz.prog 78 #[.int .u64 (s9.d : Nat), .int .u64 18] u fun e w' => e = .returned (.int .u64 (rotl s9.d 18 : Nat)) ∧ w' = u from fun u => left_q s9.d 18 u hok.d (by decide) (by decide))
      have hsum := W4 (rotl s9.a 1) (rotl s9.b 7) (rotl s9.c 12) (rotl s9.d 18)
      obtain ⟨h0, hh0⟩ : ∃ h0, h0 = (rotl s9.a 1 + rotl s9.b 7 + rotl s9.c 12 + rotl s9.d 18) % 18446744073709551616 := ⟨_, rfl⟩
      have hl0 : h0 < 18446744073709551616 := by rw [hh0]; exact Nat.mod_lt _ (by decide)
      rw [← hh0] at hsum
      have hend9 := laneEnd_eq s9
      rw [← hh0] at hend9
      rw [hend9] at hfin
      have HFN := Lib.hid hfin
      clear hfin hend9 hh0
      go_wp2
      go_quiet (first
        | ((go_at_call 78; with_reducible exact Calls.quiet_of_same (R0.out _)))
        | ((go_at_call 78; with_reducible exact Calls.quiet_of_same (R1.out _)))
        | ((go_at_call 78; with_reducible exact Calls.quiet_of_same (R2.out _)))
        | ((go_at_call 78; with_reducible exact Calls.quiet_of_same (R3.out _))))
      go_wp2_with fail
      have hlaW : LanesAt (wr.drewN nq) w.heap.size s9.at := hla
      have hbW : Below w.heap.size w (wr.drewN nq) := below_drewN hb _
      generalize wr.drewN nq = W at *
      clear c0 c1 c2 c3 hsum R0 R1 R2 R3 hla hdec hb
      go_loopw [3, 63] (fun v i wq => ∃ k : Nat, k ≤ 4 ∧ i = .int .i64 k ∧ v = .int .u64 (mergeTo h0 s9 k : Nat) ∧ wq = W) (fun _ i _ => 4 - (intOf i).toNat)
      case atStart => exact ⟨0, by omega, rfl, by rw [mergeTo_zero], rfl⟩
      case round =>
        obtain ⟨k, hk, rfl, rfl, rfl⟩ := hrel
        by_cases hlt4 : k < 4
        · have hck := hlaW.get hlt4
          have hml := mergeTo_lt hl0 s9 k
          have hal := hok.at k
          have hst := mergeTo_succ h0 s9 k
          have HST := Lib.hid hst; clear hst
          generalize mergeTo h0 s9 k = g at *
          generalize s9.at k = x at *
          have hok2 := Lib.hid hok; clear hok
          have hdk : decide ((k : Int) < 4) = true := by simp; omega
          go_wp2_with fail
          refine (rmerge_any g x _ hml hal).mono ?_
          rintro _ w' ⟨rfl, rfl⟩
          rw [← HST.out]
          go_wp2
          go_roundw
          case rel => exact ⟨k + 1, by omega, by go_num, rfl, by first | rfl | trivial⟩
          case measure => simp [intOf]; omega
        · have h4e : k = 4 := by omega
          have e4 : mergeTo h0 s9 k = mergeTo h0 s9 4 := by rw [h4e]
          rw [e4]
          clear h4e e4
          have hdk : decide ((k : Int) < 4) = false := by simp; omega
          have hml := mergeTo_lt hl0 s9 4
          have hfn := HFN.out
          generalize mergeTo h0 s9 4 = h9 at *
          obtain ⟨h, hhe⟩ : ∃ h, h = (h9 + n9) % 18446744073709551616 := ⟨_, rfl⟩
          rw [← hhe] at hfn
          have hh : h < 18446744073709551616 := by rw [hhe]; exact Nat.mod_lt _ (by decide)
          have hw : IntKind.u64.wrap ((h9 : Int) + (n9 : Int)) = (h : Int) := by rw [hhe]; exact W5 h9 n9
          have HFIN := Lib.hid hfn; clear hfn hhe
          have hc := hcqq
          have hx := hrd.below hbW
          obtain ⟨zs, hzs⟩ : ∃ zs, zs = xs.drop (32 * j) := ⟨_, rfl⟩
          rw [← hzs] at hx hlen HFIN
          have HM := Lib.hid hlen; clear hlen
          have HZS := Lib.hid hzs; clear hzs
          clear hrd HFN hok hlaW
          go_wp2
          clear hw hdk
          obtain ⟨W, hWe⟩ : ∃ W, W = wr := ⟨_, rfl⟩
          rw [← hWe]
          rw [← hWe] at hx hbW
          clear hWe
          go_loopw [0, 3] (fun s v wr => ∃ (j : Nat) (A' : Option Addr) (c' : Nat), 8 * j ≤ n ∧ n - 8 * j ≤ c' ∧ c' ≤ 9223372036854775807 ∧ v = .int .u64 (tails8 h j zs : Nat) ∧ s = .slice A' (n - 8 * j) c' ∧ Rd W A' ((zs.drop (8 * j)).map Bv) ∧ wr = W) (fun s _ _ => match s with | .slice _ m _ => m | _ => 0)
          case atStart => exact ⟨0, A, c, by omega, by omega, hc, rfl, rfl, hx, rfl⟩
          case round =>
            obtain ⟨j, A', c', hj, hjc, hc', rfl, rfl, hrd, rfl⟩ := hrel
            have hlen : (zs.drop (8 * j)).length = n - 8 * j := by rw [List.length_drop, HM.out]
            have hgl := tails8_lt hh j zs
            by_cases hlt : 8 ≤ n - 8 * j
            · have hst : tails8 h (j + 1) zs = tail8 (tails8 h j zs) (zs.drop (8 * j)) := tails8_succ h j zs
              have hll := leN_take_lt (zs.drop (8 * j)) 8 (by decide)
              generalize tails8 h j zs = g at *
              obtain ⟨l, hl⟩ : ∃ l, leN ((zs.drop (8 * j)).take 8) = l := ⟨_, rfl⟩
              obtain ⟨z, hz⟩ : ∃ z, g ^^^ xround 0 l = z := ⟨_, rfl⟩
              obtain ⟨r, hr⟩ : ∃ r, rotl z 27 = r := ⟨_, rfl⟩
              rw [tail8_eq g _ l z r hl hz hr] at hst
              rw [hl] at hll
              have hx1 := u64_xor_nat g (xround 0 l) hgl (xround_lt _ _)
              have hzl := xor_lt64 hgl (xround_lt 0 l)
              rw [hz] at hx1 hzl
              have w3 : IntKind.u64.wrap (IntKind.u64.wrap ((r : Int) * 11400714785074694791) + 9650029242287828579) = (((r * 11400714785074694791 + 9650029242287828579) % 18446744073709551616 : Nat) : Int) := W3 r 11400714785074694791 9650029242287828579
              obtain ⟨g1, hg1⟩ : ∃ g1, g1 = tails8 h (j + 1) zs := ⟨_, rfl⟩
              rw [← hst, ← hg1] at w3
              have HL := Lib.hid hl; clear hl
              have HZ := Lib.hid hz; clear hz
              have HR := Lib.hid hr; clear hr
              have HG1 := Lib.hid hg1; clear hg1 hst
              have HLEN := Lib.hid hlen; clear hlen
              go_wp2_with (first
                | (refine wpList_slice_any (o := ⟨some 80, _, _, _, _, _⟩) ?_ 37 (.tmp 79) none (some (.const (.int .i64 8))) ?_ 5 Tryz.underlying37 (by kernel_rfl) A' (n - 8 * j) c' 0 8 ?_ ?_ ?_ (Nat.zero_le _) (by omega) ?_; rfl; rfl; rfl; exact .inr ⟨rfl, rfl⟩; exact .inl rfl; intro A3 hA3 hrd3)
                | fail)
              have hd3 := hrd3 _ (by rw [List.length_map, HLEN.out]; exact hjc) hrd
              rw [List.drop_zero] at hd3
              refine (rlow_any _ A3 (c' - 0) (8 - 0) ((zs.drop (8 * j)).take 8) (by rw [List.length_take, HLEN.out]; omega) (hd3.bytes_take 8) (by decide)).mono ?_
              rintro _ w' ⟨rfl, rfl⟩
              rw [HL.out]
              go_wp2_with fail
              refine (rround_any 0 l _ (by decide) hll).mono ?_
              rintro _ w' ⟨rfl, rfl⟩
              go_wp2_with fail
              refine (left_any z 27 _ hzl (by decide) (by decide)).mono ?_
              rintro _ w' ⟨rfl, rfl⟩
              rw [HR.out]
              go_wp2_with (first
                | (refine wpList_slice_any (o := ⟨some 88, _, _, _, _, _⟩) ?_ 37 (.tmp 87) (some (.const (.int .i64 8))) none ?_ 5 Tryz.underlying37 (by kernel_rfl) A' (n - 8 * j) c' 8 (n - 8 * j) ?_ ?_ ?_ hlt hjc ?_; rfl; rfl; rfl; exact .inl rfl; exact .inr ⟨rfl, rfl⟩; intro A2 hA2 hrd2)
                | fail)
              have hd := hrd2 _ (by rw [List.length_map, HLEN.out]; exact hjc) hrd
              rw [← List.map_drop, List.drop_drop] at hd
              go_roundw
              case rel => exact ⟨j + 1, A2, c' - 8, by omega, by omega, by omega, by rw [HG1.out], by rw [show n - 8 * (j + 1) = n - 8 * j - 8 from by omega], by rw [show 8 * (j + 1) = 8 * j + 8 from by omega]; exact hd, by first | rfl | trivial⟩
              case measure => simp; omega
            · have hje : zs.length / 8 = j := by rw [HM.out]; omega
              by_cases h4 : 4 ≤ n - 8 * j
              · obtain ⟨ys, hys⟩ : ∃ ys, ys = (zs.drop (8 * j)).drop 4 := ⟨_, rfl⟩
                have hend : xend h zs = tailsB (tail4 (tails8 h j zs) (zs.drop (8 * j))) ys := by
                  simp only [xend, hje]
                  rw [if_pos (by rw [hlen]; exact h4), hys]
                have hyl : ys.length = n - 8 * j - 4 := by rw [hys, List.length_drop, hlen]
                have hll := leN_take_lt (zs.drop (8 * j)) 4 (by decide)
                generalize tails8 h j zs = g at *
                obtain ⟨l, hl⟩ : ∃ l, leN ((zs.drop (8 * j)).take 4) = l := ⟨_, rfl⟩
                obtain ⟨y, hyy⟩ : ∃ y, l * 11400714785074694791 % 18446744073709551616 = y := ⟨_, rfl⟩
                obtain ⟨z, hz⟩ : ∃ z, g ^^^ y = z := ⟨_, rfl⟩
                obtain ⟨r, hr⟩ : ∃ r, rotl z 23 = r := ⟨_, rfl⟩
                rw [tail4_eq g _ l y z r hl hyy hz hr] at hend
                rw [hl] at hll
                have hyl2 : y < 18446744073709551616 := by rw [← hyy]; exact Nat.mod_lt _ (by decide)
                have w1 : IntKind.u64.wrap ((l : Int) * 11400714785074694791) = (y : Int) := by rw [← hyy]; exact W2 l 11400714785074694791
                have x1 := u64_xor_nat g y hgl hyl2
                have hzl := xor_lt64 hgl hyl2
                rw [hz] at x1 hzl
                obtain ⟨g0, hg0e⟩ : ∃ g0, g0 = (r * 14029467366897019727 + 1609587929392839161) % 18446744073709551616 := ⟨_, rfl⟩
                rw [← hg0e] at hend
                have w3 : IntKind.u64.wrap (IntKind.u64.wrap ((r : Int) * 14029467366897019727) + 1609587929392839161) = (g0 : Int) := by rw [hg0e]; exact W3 r 14029467366897019727 1609587929392839161
                have hg0 : g0 < 18446744073709551616 := by rw [hg0e]; exact Nat.mod_lt _ (by decide)
                have HL := Lib.hid hl; clear hl
                have HR := Lib.hid hr; clear hr
                have HLEN := Lib.hid hlen; clear hlen
                have HEND := Lib.hid hend; clear hend
                have HYL := Lib.hid hyl; clear hyl
                have HYS := Lib.hid hys; clear hys
                clear hyy hz hg0e hje
                go_wp2_with (first
                  | (refine wpList_slice_any (o := ⟨some 94, _, _, _, _, _⟩) ?_ 37 (.tmp 93) none (some (.const (.int .i64 4))) ?_ 5 Tryz.underlying37 (by kernel_rfl) A' (n - 8 * j) c' 0 4 ?_ ?_ ?_ (Nat.zero_le _) (by omega) ?_; rfl; rfl; rfl; exact .inr ⟨rfl, rfl⟩; exact .inl rfl; intro A3 hA3 hrd3)
                  | fail)
                have hd3 := hrd3 _ (by rw [List.length_map, HLEN.out]; exact hjc) hrd
                rw [List.drop_zero] at hd3
                refine (rlow_any _ A3 (c' - 0) (4 - 0) ((zs.drop (8 * j)).take 4) (by rw [List.length_take, HLEN.out]; omega) (hd3.bytes_take 4) (by decide)).mono ?_
                rintro _ w' ⟨rfl, rfl⟩
                rw [HL.out]
                go_wp2_with fail
                refine (left_any z 23 _ hzl (by decide) (by decide)).mono ?_
                rintro _ w' ⟨rfl, rfl⟩
                rw [HR.out]
                go_wp2_with (first
                  | (refine wpList_slice_any (o := ⟨some 102, _, _, _, _, _⟩) ?_ 37 (.tmp 101) (some (.const (.int .i64 4))) none ?_ 5 Tryz.underlying37 (by kernel_rfl) A' (n - 8 * j) c' 4 (n - 8 * j) ?_ ?_ ?_ h4 hjc ?_; rfl; rfl; rfl; exact .inl rfl; exact .inr ⟨rfl, rfl⟩; intro A2 hA2 hrd2)
                  | fail)
                have hy := hrd2 _ (by rw [List.length_map, HLEN.out]; exact hjc) hrd
                rw [← List.map_drop, ← HYS.out] at hy
                clear hrd2 hrd3 hd3 w1 w3 x1
                go_loopw [3, 105] (fun v i wq => ∃ k : Nat, k ≤ (n - 8 * j - 4) ∧ i = .int .i64 k ∧ v = .int .u64 (tailsB g0 (ys.take k) : Nat) ∧ wq = wr) (fun _ i _ => (n - 8 * j - 4) - (intOf i).toNat)
                case atStart => exact ⟨0, by omega, rfl, rfl, rfl⟩
                case round =>
                  obtain ⟨k, hk, rfl, rfl, rfl⟩ := hrel
                  by_cases hlt2 : k < (n - 8 * j - 4)
                  · have hkx : k < ys.length := by rw [HYL.out]; exact hlt2
                    obtain ⟨b, off, rfl, hcl⟩ := hy.at (by omega)
                    have hck := hcl k hkx
                    have hb8 := bt_lt ys k
                    have hst := tailsB_succ (h := g0) hkx
                    have hll := tailsB_lt hg0 (ys.take k)
                    generalize bt ys k = p at *
                    generalize tailsB g0 (ys.take k) = g at *
                    obtain ⟨y, hyy⟩ : ∃ y, p * 2870177450012600261 % 18446744073709551616 = y := ⟨_, rfl⟩
                    obtain ⟨z, hz⟩ : ∃ z, g ^^^ y = z := ⟨_, rfl⟩
                    obtain ⟨r, hr⟩ : ∃ r, rotl z 11 = r := ⟨_, rfl⟩
                    rw [hyy, hz, hr] at hst
                    have hyl2 : y < 18446744073709551616 := by rw [← hyy]; exact Nat.mod_lt _ (by decide)
                    have w1 : IntKind.u64.wrap ((p : Int) * 2870177450012600261) = (y : Int) := by rw [← hyy]; exact W2 p 2870177450012600261
                    have x1 := u64_xor_nat g y hll hyl2
                    have hzl := xor_lt64 hll hyl2
                    rw [hz] at x1 hzl
                    obtain ⟨g1, hg1⟩ : ∃ g1, g1 = tailsB g0 (ys.take (k + 1)) := ⟨_, rfl⟩
                    rw [← hg1] at hst
                    have w2 : IntKind.u64.wrap ((r : Int) * 11400714785074694791) = (g1 : Int) := by rw [hst]; exact W2 r 11400714785074694791
                    have HR := Lib.hid hr
                    have HG1 := Lib.hid hg1
                    clear hyy hz hr hg1 hst hcl
                    go_wp2_with fail
                    refine (left_any z 11 _ hzl (by decide) (by decide)).mono ?_
                    rintro _ w' ⟨rfl, rfl⟩
                    rw [HR.out]
                    go_wp2
                    go_roundw
                    case rel => exact ⟨k + 1, by omega, by go_num, by rw [HG1.out], by first | rfl | trivial⟩
                    case measure => simp [intOf]; omega
                  · have hkn : ys.take k = ys := List.take_of_length_le (by rw [HYL.out]; omega)
                    rw [hkn]
                    clear hkn
                    have hvl := tailsB_lt hg0 ys
                    obtain ⟨hv, hhv⟩ : ∃ hv, hv = tailsB g0 ys := ⟨_, rfl⟩
                    rw [← hhv] at hvl ⊢
                    have HHV := Lib.hid hhv; clear hhv
                    obtain ⟨z, hz⟩ : ∃ z, hv ^^^ (hv / 8589934592) = z := ⟨_, rfl⟩
                    obtain ⟨y, hy1⟩ : ∃ y, z * 14029467366897019727 % 18446744073709551616 = y := ⟨_, rfl⟩
                    obtain ⟨v, hv1⟩ : ∃ v, y ^^^ (y / 536870912) = v := ⟨_, rfl⟩
                    obtain ⟨u, hu1⟩ : ∃ u, v * 1609587929392839161 % 18446744073709551616 = u := ⟨_, rfl⟩
                    obtain ⟨t, ht1⟩ : ∃ t, u ^^^ (u / 4294967296) = t := ⟨_, rfl⟩
                    have hse := settle_eq hv y z u v t hz hy1 hv1 hu1 ht1
                    have HSE := Lib.hid hse; clear hse
                    have l1 : y < 18446744073709551616 := by rw [← hy1]; exact Nat.mod_lt _ (by decide)
                    have l2 : u < 18446744073709551616 := by rw [← hu1]; exact Nat.mod_lt _ (by decide)
                    have x1 : bits .xor .u64 (hv : Int) ((hv : Int) / 8589934592) = ((z : Nat) : Int) := by rw [← hz]; exact u64_xor_nat hv (hv / 8589934592) hvl (by omega)
                    have m1 : IntKind.u64.wrap ((z : Int) * 14029467366897019727) = (y : Int) := by rw [← hy1]; exact W2 z 14029467366897019727
                    have x2 : bits .xor .u64 (y : Int) ((y : Int) / 536870912) = (v : Int) := by rw [← hv1]; exact u64_xor_nat y (y / 536870912) l1 (by omega)
                    have m2 : IntKind.u64.wrap ((v : Int) * 1609587929392839161) = (u : Int) := by rw [← hu1]; exact W2 v 1609587929392839161
                    have x3 : bits .xor .u64 (u : Int) ((u : Int) / 4294967296) = (t : Int) := by rw [← ht1]; exact u64_xor_nat u (u / 4294967296) l2 (by omega)
                    clear hz hy1 hv1 hu1 ht1
                    go_wp2
                    go_ret
                    exact ⟨by rw [HFIN.out, HEND.out, ← HHV.out, HSE.out]; rfl, hbW⟩
              · obtain ⟨ys, hys⟩ : ∃ ys, ys = zs.drop (8 * j) := ⟨_, rfl⟩
                have hend : xend h zs = tailsB (tails8 h j zs) ys := by
                  simp only [xend, hje]
                  rw [if_neg (by rw [hlen]; exact h4), hys]
                have HYL : Hid (ys.length = n - 8 * j) := by rw [hys]; exact Lib.hid hlen
                have hy := hrd
                rw [← hys] at hy
                have hg0 := hgl
                generalize tails8 h j zs = g0 at *
                have HEND := Lib.hid hend; clear hend
                have HYS := Lib.hid hys; clear hys hje hlen
                go_wp2
                go_loopw [3, 105] (fun v i wq => ∃ k : Nat, k ≤ (n - 8 * j) ∧ i = .int .i64 k ∧ v = .int .u64 (tailsB g0 (ys.take k) : Nat) ∧ wq = wr) (fun _ i _ => (n - 8 * j) - (intOf i).toNat)
                case atStart => exact ⟨0, by omega, rfl, rfl, rfl⟩
                case round =>
                  obtain ⟨k, hk, rfl, rfl, rfl⟩ := hrel
                  by_cases hlt2 : k < (n - 8 * j)
                  · have hkx : k < ys.length := by rw [HYL.out]; exact hlt2
                    obtain ⟨b, off, rfl, hcl⟩ := hy.at (by omega)
                    have hck := hcl k hkx
                    have hb8 := bt_lt ys k
                    have hst := tailsB_succ (h := g0) hkx
                    have hll := tailsB_lt hg0 (ys.take k)
                    generalize bt ys k = p at *
                    generalize tailsB g0 (ys.take k) = g at *
                    obtain ⟨y, hyy⟩ : ∃ y, p * 2870177450012600261 % 18446744073709551616 = y := ⟨_, rfl⟩
                    obtain ⟨z, hz⟩ : ∃ z, g ^^^ y = z := ⟨_, rfl⟩
                    obtain ⟨r, hr⟩ : ∃ r, rotl z 11 = r := ⟨_, rfl⟩
                    rw [hyy, hz, hr] at hst
                    have hyl2 : y < 18446744073709551616 := by rw [← hyy]; exact Nat.mod_lt _ (by decide)
                    have w1 : IntKind.u64.wrap ((p : Int) * 2870177450012600261) = (y : Int) := by rw [← hyy]; exact W2 p 2870177450012600261
                    have x1 := u64_xor_nat g y hll hyl2
                    have hzl := xor_lt64 hll hyl2
                    rw [hz] at x1 hzl
                    obtain ⟨g1, hg1⟩ : ∃ g1, g1 = tailsB g0 (ys.take (k + 1)) := ⟨_, rfl⟩
                    rw [← hg1] at hst
                    have w2 : IntKind.u64.wrap ((r : Int) * 11400714785074694791) = (g1 : Int) := by rw [hst]; exact W2 r 11400714785074694791
                    have HR := Lib.hid hr
                    have HG1 := Lib.hid hg1
                    clear hyy hz hr hg1 hst hcl
                    go_wp2_with fail
                    refine (left_any z 11 _ hzl (by decide) (by decide)).mono ?_
                    rintro _ w' ⟨rfl, rfl⟩
                    rw [HR.out]
                    go_wp2
                    go_roundw
                    case rel => exact ⟨k + 1, by omega, by go_num, by rw [HG1.out], by first | rfl | trivial⟩
                    case measure => simp [intOf]; omega
                  · have hkn : ys.take k = ys := List.take_of_length_le (by rw [HYL.out]; omega)
                    rw [hkn]
                    clear hkn
                    have hvl := tailsB_lt hg0 ys
                    obtain ⟨hv, hhv⟩ : ∃ hv, hv = tailsB g0 ys := ⟨_, rfl⟩
                    rw [← hhv] at hvl ⊢
                    have HHV := Lib.hid hhv; clear hhv
                    obtain ⟨z, hz⟩ : ∃ z, hv ^^^ (hv / 8589934592) = z := ⟨_, rfl⟩
                    obtain ⟨y, hy1⟩ : ∃ y, z * 14029467366897019727 % 18446744073709551616 = y := ⟨_, rfl⟩
                    obtain ⟨v, hv1⟩ : ∃ v, y ^^^ (y / 536870912) = v := ⟨_, rfl⟩
                    obtain ⟨u, hu1⟩ : ∃ u, v * 1609587929392839161 % 18446744073709551616 = u := ⟨_, rfl⟩
                    obtain ⟨t, ht1⟩ : ∃ t, u ^^^ (u / 4294967296) = t := ⟨_, rfl⟩
                    have hse := settle_eq hv y z u v t hz hy1 hv1 hu1 ht1
                    have HSE := Lib.hid hse; clear hse
                    have l1 : y < 18446744073709551616 := by rw [← hy1]; exact Nat.mod_lt _ (by decide)
                    have l2 : u < 18446744073709551616 := by rw [← hu1]; exact Nat.mod_lt _ (by decide)
                    have x1 : bits .xor .u64 (hv : Int) ((hv : Int) / 8589934592) = ((z : Nat) : Int) := by rw [← hz]; exact u64_xor_nat hv (hv / 8589934592) hvl (by omega)
                    have m1 : IntKind.u64.wrap ((z : Int) * 14029467366897019727) = (y : Int) := by rw [← hy1]; exact W2 z 14029467366897019727
                    have x2 : bits .xor .u64 (y : Int) ((y : Int) / 536870912) = (v : Int) := by rw [← hv1]; exact u64_xor_nat y (y / 536870912) l1 (by omega)
                    have m2 : IntKind.u64.wrap ((v : Int) * 1609587929392839161) = (u : Int) := by rw [← hu1]; exact W2 v 1609587929392839161
                    have x3 : bits .xor .u64 (u : Int) ((u : Int) / 4294967296) = (t : Int) := by rw [← ht1]; exact u64_xor_nat u (u / 4294967296) l2 (by omega)
                    clear hz hy1 hv1 hu1 ht1
                    go_wp2
                    go_ret
                    exact ⟨by rw [HFIN.out, HEND.out, ← HHV.out, HSE.out]; rfl, hbW⟩
end
end Go.Proofs.YtmicbgcdnkomjaaGreatDoor
