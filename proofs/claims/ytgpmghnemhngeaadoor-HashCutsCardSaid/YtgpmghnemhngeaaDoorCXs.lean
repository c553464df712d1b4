/-
  The stripes of xxHash64, as the package reckons them.
-/
import Derived.Test.YtgpmghnemhngeaaDoorC01
namespace Go.Proofs.YtgpmghnemhngeaaDoor
section
set_option linter.unusedVariables false
set_option linter.unusedSimpArgs false
open Go.RowKit

/-- A lane by its place. -/
def La.at (s : La) : Nat → Nat
  | 0 => s.a | 1 => s.b | 2 => s.c | _ => s.d
theorem La.at0 (s : La) : s.at 0 = s.a := rfl
theorem La.at1 (s : La) : s.at 1 = s.b := rfl
theorem La.at2 (s : La) : s.at 2 = s.c := rfl
theorem La.at3 (s : La) (n : Nat) : s.at (n + 3) = s.d := rfl
theorem La.Ok.at {s : La} (h : s.Ok) (i : Nat) : s.at i < 18446744073709551616 := by
  rcases i with _ | _ | _ | n
  · rw [La.at0]; exact h.a
  · rw [La.at1]; exact h.b
  · rw [La.at2]; exact h.c
  · rw [La.at3]; exact h.d
theorem laneStep_mk (s : La) (xs : List UInt8) : laneStep s xs = ⟨xround s.a (leN (xs.take 8)), xround s.b (leN ((xs.drop 8).take 8)), xround s.c (leN ((xs.drop 16).take 8)), xround s.d (leN ((xs.drop 24).take 8))⟩ := by unfold laneStep; rfl
theorem laneStep_at (s : La) (xs : List UInt8) {i : Nat} (hi : i < 4) : (laneStep s xs).at i = xround (s.at i) (leN ((xs.drop (8 * i)).take 8)) := by
  rw [laneStep_mk]
  generalize hf : xround = f
  rcases i with _ | _ | _ | n
  · rw [La.at0, La.at0, Nat.mul_zero, List.drop_zero]
  · rw [La.at1, La.at1]
  · rw [La.at2, La.at2]
  · have : n = 0 := by omega
    subst this
    rw [La.at3, La.at3]
/-- The first k lanes merged. -/
def mergeTo (h : Nat) (s : La) : Nat → Nat
  | 0 => h
  | k + 1 => xmerge (mergeTo h s k) (s.at k)
theorem mergeTo_succ (h : Nat) (s : La) (k : Nat) : mergeTo h s (k + 1) = xmerge (mergeTo h s k) (s.at k) := by rw [mergeTo]
theorem mergeTo_zero (h : Nat) (s : La) : mergeTo h s 0 = h := by rw [mergeTo]
theorem mergeTo_lt {h : Nat} (hh : h < 18446744073709551616) (s : La) (k : Nat) : mergeTo h s k < 18446744073709551616 := by
  cases k with
  | zero => rw [mergeTo_zero]; exact hh
  | succ k => rw [mergeTo_succ]; exact xmerge_lt _ _
theorem laneEnd_eq (s : La) : laneEnd s = mergeTo ((rotl s.a 1 + rotl s.b 7 + rotl s.c 12 + rotl s.d 18) % 18446744073709551616) s 4 := by
  rw [mergeTo_succ, mergeTo_succ, mergeTo_succ, mergeTo_succ, mergeTo_zero, La.at0, La.at1, La.at2, La.at3 s 0, laneEnd]
theorem W4 (a b c d : Nat) : IntKind.u64.wrap (IntKind.u64.wrap (IntKind.u64.wrap ((a : Int) + (b : Int)) + (c : Int)) + (d : Int)) = (((a + b + c + d) % 18446744073709551616 : Nat) : Int) := by
  rw [wrap_u64_eq, wrap_u64_eq, wrap_u64_eq]; omega
/-- Four lanes in a block. -/
def LanesAt (w : World) (b : Nat) (f : Nat → Nat) : Prop := ∃ cs : Array Value, w.heap[b]? = some (.cells cs 63 (0, 0)) ∧ cs.size = 4 ∧ ∀ i, i < 4 → cs[i]? = some (.int .u64 (f i : Nat))
theorem LanesAt.get {w : World} {b : Nat} {f : Nat → Nat} (h : LanesAt w b f) {i : Nat} (hi : i < 4) : w.cell? ⟨b, i, none⟩ = some (.int .u64 (f i : Nat)) := by
  obtain ⟨cs, hb, _, hf⟩ := h
  rw [cell_blk hb, hf i hi]
theorem LanesAt.free {w : World} {b : Nat} {f : Nat → Nat} (h : LanesAt w b f) (i : Nat) : w.frozen? ⟨b, i, none⟩ = false := by
  obtain ⟨cs, hb, _, _⟩ := h
  exact free_blk hb i
theorem LanesAt.put {w : World} {b : Nat} {f g : Nat → Nat} {i : Nat} {x : Int} (h : LanesAt w b f) (hi : i < 4) (hx : x = (g i : Nat)) (hg : ∀ j, j ≠ i → g j = f j) : LanesAt (w.setCell ⟨b, i, none⟩ (.int .u64 x)) b g := by
  obtain ⟨cs, hb, hn, hf⟩ := h
  refine ⟨_, set_blk hb i _, by simp [hn], fun j hj => ?_⟩
  rw [Array.getElem?_setIfInBounds]
  by_cases e : i = j
  · subst e; rw [if_pos rfl, if_pos (by omega), hx]
  · rw [if_neg e, hg j (fun h => e h.symm)]; exact hf j hj
theorem LanesAt.congr {w : World} {b : Nat} {f g : Nat → Nat} (h : LanesAt w b f) (hg : ∀ j, j < 4 → g j = f j) : LanesAt w b g := by
  obtain ⟨cs, hb, hn, hf⟩ := h
  exact ⟨cs, hb, hn, fun j hj => by rw [hg j hj]; exact hf j hj⟩
theorem slice_all {P : Program} (ty e : TypeId) (A : Option Addr) (n c l : Nat) (hu : P.underlying ty = some (.slice e)) (hs : (P.info? e).map (·.size) = some 1) (hl : l ≤ n) (hn : n ≤ c) :
    ∃ A', (∀ u : World, (Instr.sliceAt ty (.slice A n c) (some (.int .i64 (l : Nat))) none none).run P u = .ok (.slice A' (n - l) (c - l)) u) ∧ ∀ (u : World) (vs : List Value), vs.length ≤ c → Rd u A vs → Rd u A' (vs.drop l) := by
  refine ⟨if c = l then A else A.map (·.add l), fun u => ?_, fun u vs hv hr => ?_⟩
  · cases hq : P.info? e with
    | none => simp [hq] at hs
    | some i =>
      have hsz : i.size = 1 := by simpa [hq] using hs
      have b1 := run_bound (P := P) u l n
      simp [Instr.sliceAt, Instr.slice, Instr.sliceBounds, run_underlying hu, sizeOf, typeInfo, hq, hsz, b1, hl]
  · split
    · rw [List.drop_eq_nil_of_le (by omega)]
      exact Rd.nil _ _
    · exact hr.drop l

theorem wpList_slice_all {P : Program} {w : World} {ops : Array Oper} {rest : List Oper} {o : Oper} {a : Act} {Q : Exit → Act → World → Prop} (hgd : o.guard = none) (ty : TypeId) (x lo : Operand)
    (ho : o.op = .slice ty x (some lo) none none) (e : TypeId) (hu : P.underlying ty = some (.slice e)) (hs : (P.info? e).map (·.size) = some 1) (A : Option Addr) (n c l : Nat) (hx : a.eval x = .slice A n c)
    (hlo : a.eval lo = .int .i64 (l : Nat)) (hl : l ≤ n) (hn : n ≤ c)
    (hK : ∀ A', (∀ (u : World) (vs : List Value), vs.length ≤ c → Rd u A vs → Rd u A' (vs.drop l)) → wpList P ops Q rest (a.put o.dst (.slice A' (n - l) (c - l))) w) : wpList P ops Q (o :: rest) a w := by
  obtain ⟨A', hr, hv⟩ := slice_all (P := P) ty e A n c l hu hs hl hn
  refine wpList_plain hgd fun K hK' => ?_
  unfold Oper.wp
  simp only [execOp, ho, hx, Option.map_some, hlo, Option.map_none, Sem.run_bind, Sem.run_pure, hr w, Result.andThen_ok]
  exact hK' _ _ (hK A' hv)
theorem rot64_q (x n : Nat) (w : World) (hx : x < 18446744073709551616) (h0 : 0 < n) (h1 : n < 64) :
    Calls Tryd.prog 48 #[.int .u64 x, .int .i64 (n : Int)] w fun e w' => e = .returned (.int .u64 (rotl x n : Nat)) ∧ w' = w := (rot64_any x n w hx h0 h1).mono fun _ _ ⟨he, hw⟩ => ⟨he, hw.symm⟩

section
set_option maxHeartbeats 1600000
set_option maxRecDepth 100000
theorem stripes_any (w : World) (A : Option Addr) (c n : Nat) (xs : List UInt8) (hm : xs.length = n) (hx : Rd w A (xs.map Bv)) (hmc : n ≤ c) (hc : c ≤ 9223372036854775807) :
    Calls Tryd.prog 32 #[.slice A n c] w fun e w' => ∃ A2, e = .returned (.tuple #[.int .u64 (laneEnd (lanes la0 (n / 32) xs) : Nat), .slice A2 (n - 32 * (n / 32)) (c - 32 * (n / 32))]) ∧ Rd w' A2 ((xs.drop (32 * (n / 32))).map Bv) ∧ Below w.heap.size w w' := by
  have HM := Lib.hid hm; clear hm
  have w1 : IntKind.u64.wrap 25430182151971714518 = 6983438078262162902 := by rw [wrap_u64_eq]; decide +kernel
  have w2 : IntKind.u64.wrap (-11400714785074694791) = 7046029288634856825 := by rw [wrap_u64_eq]; decide +kernel
  go_enter Tryd.func32, Tryd.ntmps32
  go_wp2
  have hl0 : LanesAt (w.alloc (.cells #[.int .u64 6983438078262162902, .int .u64 14029467366897019727, .int .u64 0, .int .u64 7046029288634856825] 63)) w.heap.size la0.at := by
    refine ⟨_, heap_alloc_new w _, rfl, fun i hi => ?_⟩
    match i, hi with
    | 0, _ => rfl
    | 1, _ => rfl
    | 2, _ => rfl
    | 3, _ => rfl
  have hb0 : Below w.heap.size w (w.alloc (.cells #[.int .u64 6983438078262162902, .int .u64 14029467366897019727, .int .u64 0, .int .u64 7046029288634856825] 63)) := (Below.refl _ w).alloc (Nat.le_refl _) _
  clear w1 w2
  go_loopw [0] (fun s wr => ∃ (j : Nat) (A' : Option Addr), 32 * j ≤ n ∧ s = .slice A' (n - 32 * j) (c - 32 * j) ∧ Rd w A' ((xs.drop (32 * j)).map Bv) ∧ LanesAt wr w.heap.size (lanes la0 j xs).at ∧ Below w.heap.size w wr) (fun s _ => match s with | .slice _ m _ => m | _ => 0)
  case atStart => exact ⟨0, A, by omega, rfl, hx, hl0, hb0⟩
  case round =>
    clear hl0 hb0
    obtain ⟨j, A', hj, rfl, hrd, hla, hb⟩ := hrel
    have hlen : (xs.drop (32 * j)).length = n - 32 * j := by rw [List.length_drop, HM.out]
    obtain ⟨m, hmm⟩ : ∃ m, m = n - 32 * j := ⟨_, rfl⟩
    obtain ⟨c', hcc⟩ : ∃ c', c' = c - 32 * j := ⟨_, rfl⟩
    rw [← hmm] at hlen ⊢
    rw [← hcc]
    have hmc' : m ≤ c' := by omega
    have hc'' : c' ≤ 9223372036854775807 := by omega
    by_cases hlt : 32 ≤ m
    · have hok := lanes_ok la0_ok j xs
      have hst : lanes la0 (j + 1) xs = laneStep (lanes la0 j xs) (xs.drop (32 * j)) := lanes_succ la0 j xs
      have hat := fun (i : Nat) (hi : i < 4) => laneStep_at (lanes la0 j xs) (xs.drop (32 * j)) hi
      rw [← hst] at hat
      have HST := Lib.hid hst; clear hst
      generalize lanes la0 j xs = s0 at *
      generalize hs1 : lanes la0 (j + 1) xs = s1 at *
      have HS1 := Lib.hid hs1; clear hs1
      obtain ⟨ys, hys⟩ : ∃ ys, ys = xs.drop (32 * j) := ⟨_, rfl⟩
      rw [← hys] at hlen hrd hat HST
      have HYS := Lib.hid hys; clear hys
      have HAT := Lib.hid hat; clear hat
      have HLEN := Lib.hid hlen; clear hlen
      have HMM := Lib.hid hmm; clear hmm
      have HCC := Lib.hid hcc; clear hcc
      have hdec : decide ((32 : Int) ≤ (m : Int)) = true := by simp; omega
      go_wp2
      obtain ⟨wo, hwo⟩ : ∃ wo, wo = wr := ⟨_, rfl⟩
      rw [← hwo]
      rw [← hwo] at hla hb
      go_loopw [22] (fun i wq => ∃ k : Nat, k ≤ 4 ∧ i = .int .i64 k ∧ LanesAt wq w.heap.size (fun i => if i < k then s1.at i else s0.at i) ∧ Below w.heap.size w wq) (fun i _ => 4 - (intOf i).toNat)
      case atStart => exact ⟨0, by omega, rfl, hla.congr (fun j _ => if_neg (Nat.not_lt_zero j)), hb⟩
      case round =>
        clear hla hb hwo
        obtain ⟨k, hk, rfl, hla, hb⟩ := hrel
        have hrw := hrd.below hb
        by_cases hlt4 : k < 4
        · have hc0 := hla.get hlt4
          simp only [if_neg (Nat.lt_irrefl k)] at hc0
          have hf0 := hla.free k
          obtain ⟨e, he⟩ : ∃ e, e = 8 * k := ⟨_, rfl⟩
          have hel : e ≤ m := by omega
          have hee : (8 : Int) * (k : Int) = (e : Int) := by omega
          have hmw : IntKind.i64.wrap ((8 : Int) * (k : Int)) = (e : Int) := by rw [IntKind.wrap_i64]; omega
          have hmw2 : IntKind.i64.wrap (e : Int) = (e : Int) := by rw [IntKind.wrap_i64]; omega
          have hm8 : 8 ≤ m - e := by omega
          obtain ⟨A2, hsl, hsr⟩ := slice_all (P := Tryd.prog) 28 5 A' m c' e Tryd.underlying28 (by kernel_rfl) hel hmc'
          have hrd2 := hsr wr _ (by rw [List.length_map, HLEN.out]; exact hmc') hrw
          rw [← List.map_drop] at hrd2
          have hll := leN_take_lt (ys.drop e) 8 (by decide)
          have hsk := hok.at k
          have hak := HAT.out k hlt4
          rw [← he] at hak
          have HAK := Lib.hid hak; clear hak
          have hdl : (ys.drop e).length = m - e := by rw [List.length_drop, HLEN.out]
          have HDL := Lib.hid hdl; clear hdl
          have HE := Lib.hid he; clear he
          clear hsr
          generalize s0.at k = x0 at *
          go_wp2
          go_region_with (first
            | ((go_at_call 47; refine (number_any wr.drew A2 (c' - e) (m - e) 8 (ys.drop e) HDL.out (show Rd wr.drew _ _ from hrd2) hm8 (by omega) (by decide) (by omega)).mono ?_; rintro _ w' ⟨rfl, rfl⟩))
            | ((go_at_call 46; refine (round_any x0 (leN ((ys.drop e).take 8)) wr.drew hsk hll).mono ?_; rintro _ w' ⟨rfl, rfl⟩)))
          all_goals
            go_wp2
            go_roundw
            case rel => exact ⟨k + 1, by omega, by go_num, hla.put hlt4 (by rw [if_pos (show k < k + 1 from Nat.lt_succ_self k), HAK.out]) (fun q hq => by
                by_cases h1 : q < k
                · rw [if_pos h1, if_pos (by omega)]
                · rw [if_neg h1, if_neg (by omega)]), (below_drewN hb 1).setCell (Nat.le_refl _) _⟩
            case measure => simp [intOf]; omega
        · have hla4 : LanesAt wr w.heap.size s1.at := hla.congr (fun q hq => (if_pos (by omega)).symm)
          go_wp2_with (first
            | (refine wpList_slice_all (o := ⟨some 38, _, _, _, _, _⟩) ?_ 28 (.tmp 37) (.const (.int .i64 32)) ?_ 5 Tryd.underlying28 (by kernel_rfl) A' m c' 32 ?_ ?_ hlt hmc' ?_; rfl; rfl; rfl; rfl; intro A2 hsr)
            | fail)
          have hrd2 := hsr w _ (by rw [List.length_map, HLEN.out]; exact hmc') hrd
          rw [← List.map_drop, HYS.out, List.drop_drop] at hrd2
          have HRD2 := Lib.hid hrd2; clear hrd2 hsr hla
          go_roundw
          case rel => exact ⟨j + 1, A2, by have := HMM.out; omega, by rw [show n - 32 * (j + 1) = m - 32 from by have := HMM.out; omega, show c - 32 * (j + 1) = c' - 32 from by have := HCC.out; omega], by rw [show 32 * (j + 1) = 32 * j + 32 from by omega]; exact HRD2.out, by rw [HS1.out]; exact hla4, hb⟩
          case measure => simp; omega
    · have hje : n / 32 = j := by omega
      have HJE := Lib.hid hje; clear hje
      have hdec : decide ((32 : Int) ≤ (m : Int)) = false := by simp; omega
      have HMM := Lib.hid hmm; clear hmm
      have HCC := Lib.hid hcc; clear hcc
      have hok := lanes_ok la0_ok j xs
      obtain ⟨s9, hs9⟩ : ∃ s9, s9 = lanes la0 j xs := ⟨_, rfl⟩
      have HS9 := Lib.hid hs9; clear hs9
      rw [← HS9.out] at hla hok
      have c0 := hla.get (i := 0) (by decide)
      have c1 := hla.get (i := 1) (by decide)
      have c2 := hla.get (i := 2) (by decide)
      have c3 := hla.get (i := 3) (by decide)
      rw [La.at0] at c0
      rw [La.at1] at c1
      rw [La.at2] at c2
      rw [La.at3 s9 0] at c3
      have R0 := Lib.hid (show ∀ u, Calls Tryd.prog 48 #[.int .u64 (s9.a : Nat), .int .i64 1] u fun e w' => e = .returned (.int .u64 (rotl s9.a 1 : Nat)) ∧ w' = u from fun u => rot64_q s9.a 1 u hok.a (by decide) (by decide))
      have R1 := Lib.hid (show ∀ u, Calls Tryd.prog 48 #[.int .u64 (s9.b : Nat), .int .i64 7] u fun e w' => e = .returned (.int .u64 (rotl s9.b 7 : Nat)) ∧ w' = u from fun u => rot64_q s9.b 7 u hok.b (by decide) (by decide))
      have R2 := Lib.hid (show ∀ u, Calls Tryd.prog 48 #[.int .u64 (s9.c : Nat), .int .i64 12] u fun e w' => e = .returned (.int .u64 (rotl s9.c 12 : Nat)) ∧ w' = u from fun u => rot64_q s9.c 12 u hok.c (by decide) (by decide))
      have R3 := Lib.hid (show ∀ u, Calls Tryd.prog 48 #[.int .u64 (s9.d : Nat), .int .i64 18] u fun e w' => e = .returned (.int .u64 (rotl s9.d 18 : Nat)) ∧ w' = u from fun u => rot64_q s9.d 18 u hok.d (by decide) (by decide))
      have hsum := W4 (rotl s9.a 1) (rotl s9.b 7) (rotl s9.c 12) (rotl s9.d 18)
      obtain ⟨h0, hh0⟩ : ∃ h0, h0 = (rotl s9.a 1 + rotl s9.b 7 + rotl s9.c 12 + rotl s9.d 18) % 18446744073709551616 := ⟨_, rfl⟩
      have hl0 : h0 < 18446744073709551616 := by rw [hh0]; exact Nat.mod_lt _ (by decide)
      rw [← hh0] at hsum
      have hend := laneEnd_eq s9
      rw [← hh0] at hend
      have HEND := Lib.hid hend; clear hend hh0
      go_wp2
      go_quiet (first
        | ((go_at_call 48; with_reducible exact Calls.quiet_of_same (R0.out _)))
        | ((go_at_call 48; with_reducible exact Calls.quiet_of_same (R1.out _)))
        | ((go_at_call 48; with_reducible exact Calls.quiet_of_same (R2.out _)))
        | ((go_at_call 48; with_reducible exact Calls.quiet_of_same (R3.out _))))
      go_wp2_with fail
      clear c0 c1 c2 c3 hsum hlen R0 R1 R2 R3 hla hdec
      go_loopw [6, 55] (fun v i wq => ∃ k : Nat, k ≤ 4 ∧ i = .int .i64 k ∧ v = .int .u64 (mergeTo h0 s9 k : Nat) ∧ wq = wr.drewN nq) (fun _ i _ => 4 - (intOf i).toNat)
      case atStart => exact ⟨0, by omega, rfl, by rw [mergeTo_zero], rfl⟩
      case round =>
        obtain ⟨k, hk, rfl, rfl, rfl⟩ := hrel
        by_cases hlt4 : k < 4
        · have hix := fun (u : World) => run_index_agg (P := Tryd.prog) u 63 43 4 k #[.int .u64 (s9.a : Nat), .int .u64 (s9.b : Nat), .int .u64 (s9.c : Nat), .int .u64 (s9.d : Nat)] (.int .u64 (s9.at k : Nat)) Tryd.underlying63 (by kernel_rfl) (by kernel_rfl) (by kernel_rfl) hlt4 (by
            rcases k with _ | _ | _ | q
            · rw [La.at0]; rfl
            · rw [La.at1]; rfl
            · rw [La.at2]; rfl
            · have : q = 0 := by omega
              subst this
              rw [La.at3]; rfl)
          have hml := mergeTo_lt hl0 s9 k
          have hal := hok.at k
          have hst := mergeTo_succ h0 s9 k
          have HST := Lib.hid hst; clear hst
          generalize mergeTo h0 s9 k = g at *
          generalize s9.at k = x at *
          have hok2 := Lib.hid hok; clear hok
          have hdk : decide ((k : Int) < 4) = true := by simp; omega
          go_wp2_with fail
          refine (merge_any g x _ hml hal).mono ?_
          rintro _ w' ⟨rfl, rfl⟩
          rw [← HST.out]
          go_wp2
          go_roundw
          case rel => exact ⟨k + 1, by omega, by go_num, rfl, by first | rfl | trivial⟩
          case measure => simp [intOf]; omega
        · have h4 : k = 4 := by omega
          rw [h4, ← HEND.out]
          clear h4
          go_wp2
          go_ret2
          refine ⟨A', ?_, ?_, below_drewN hb _⟩
          · rw [HJE.out, ← HS9.out, ← HMM.out, ← HCC.out]; rfl
          · rw [HJE.out]; exact (hrd.below hb).drewN _
end
end
end Go.Proofs.YtgpmghnemhngeaaDoor
