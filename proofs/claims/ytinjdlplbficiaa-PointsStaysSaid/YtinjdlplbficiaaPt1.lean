/-
  Whether a list of points is right, the program's and the plain answers' own; whether two lists are the same.
-/
import Derived.Test.YtinjdlplbficiaaPo
namespace Go.Proofs.Ytinjdlplbficiaa
set_option linter.unusedVariables false
set_option linter.unusedSimpArgs false
open Go.RowKit
def prevP (l : List Pt) (k : Nat) : Option Int := if k = 0 then none else (l[k - 1]?).map (·.1)
theorem prev_zero (l : List Pt) : prevP l 0 = none := rfl
theorem prev_succ {l : List Pt} {j : Nat} (h : j < l.length) : prevP l (j + 1) = some l[j].1 := by simp [prevP, h]
theorem chain_zero {l : List Pt} (h : 0 < l.length) : chainB (prevP l 0) (l.drop 0) = (decide (l[0].2.2 ≠ 0) && chainB (prevP l 1) (l.drop 1)) := by
  rw [List.drop_eq_getElem_cons h, prev_succ h, prev_zero]
  simp [chainB]
theorem chain_succ {l : List Pt} {j : Nat} (h : j + 1 < l.length) : chainB (prevP l (j + 1)) (l.drop (j + 1)) = (decide (l[j + 1].2.2 ≠ 0) && decide (l[j].1 < l[j + 1].1) && chainB (prevP l (j + 1 + 1)) (l.drop (j + 1 + 1))) := by
  rw [List.drop_eq_getElem_cons h, prev_succ h, prev_succ (by omega)]
  simp [chainB]
theorem chain_zero' {l : List Pt} {k : Nat} (h : k < l.length) (hk : k = 0) : chainB (prevP l k) (l.drop k) = (decide (l[k].2.2 ≠ 0) && chainB (prevP l (k + 1)) (l.drop (k + 1))) := by
  subst hk; exact chain_zero h
theorem chain_succ' {l : List Pt} {j k : Nat} (h : k < l.length) (hk : k = j + 1) (hj : j < l.length) : chainB (prevP l k) (l.drop k) = (decide (l[k].2.2 ≠ 0) && decide (l[j].1 < l[k].1) && chainB (prevP l (k + 1)) (l.drop (k + 1))) := by
  subst hk; exact chain_succ h
theorem chain_nil (o : Option Int) : chainB o [] = true := by cases o <;> rfl
section
set_option maxHeartbeats 1600000
set_option maxRecDepth 100000
theorem right_any (A : Option Addr) (c : Nat) (l : List Pt) (w : World) (hx : Rd w A (pcells l)) (hl : l.length ≤ 2000) :
    Calls Try.prog 13 #[.slice A l.length c] w fun e w' => e = .returned (.bool (rightB l)) ∧ Below w.heap.size w w' := by
  obtain ⟨R, hR⟩ : ∃ R, R = rightB l := ⟨_, rfl⟩
  rw [← hR]
  have hst : R = chainB (prevP l 0) (l.drop 0) := by rw [hR]; unfold rightB; rw [decide_eq_true (by omega), Bool.true_and, List.drop_zero]; rfl
  have HST := Lib.hid hst; clear hst hR
  have hl1 : ¬ (65536 : Int) < (l.length : Int) := by omega
  go_enter Try.func13, Try.ntmps13
  go_wp2
  go_loopw [10] (fun s10 wr => ∃ k : Nat, s10 = .int .i64 k ∧ k ≤ l.length ∧ Aside (RowKit.Below w.heap.size w wr) ∧ Aside (R = chainB (prevP l k) (l.drop k))) (fun s10 _ => l.length - (intOf s10).toNat)
  case atStart => exact ⟨0, rfl, by omega, RowKit.Below.refl _ _, HST.out⟩
  case round =>
    obtain ⟨k, rfl, hk, BW, E⟩ := hrel
    have k0 : (0 : Int) ≤ (k : Int) := by omega
    by_cases hlt : k < l.length
    · have k1 : (k : Int) < (l.length : Int) := by omega
      have hrd := hx.below BW.out
      by_cases hk0 : k = 0
      · have k00 : ¬ (0 : Int) < (k : Int) := by omega
        have k01 : ¬ 0 < k := by omega
        obtain ⟨b, off, rfl, c0, c1, c2⟩ := pt_at hrd hlt
        have hE := E.out
        rw [chain_zero' hlt hk0] at hE
        clear hk0
        have HRD := Lib.hid hrd
        clear hx hrd E
        generalize l[k] = x at c0 c1 c2 hE
        obtain ⟨x1, x2, x3⟩ := x
        simp only at c0 c1 c2 hE
        have HBW := Lib.hid (BW.out.alloc BW.out.size (.cells #[.int .i64 x1, .int .u64 x2, .int .u64 x3] 25))
        by_cases hz : x3 = 0
        · have hE2 : R = false := by rw [hE]; simp [hz]
          have HE := Lib.hid hE2; clear hE hE2
          subst hz
          go_wp2
          go_quiet (fail)
          go_wp2
          go_ret
          exact ⟨by rw [HE.out]; rfl, below_drewN HBW.out _⟩
        · have hE2 : R = chainB (prevP l (k + 1)) (l.drop (k + 1)) := by rw [hE]; simp [hz]
          have hzb : (x3 == (0 : Int)) = false := by simp [hz]
          have HE := Lib.hid hE2; clear hE hE2
          go_wp2
          go_quiet (fail)
          go_wp2
          go_roundw
          case rel => exact ⟨k + 1, by go_num, by omega, (show Aside _ from below_drewN HBW.out _), (show Aside _ from HE.out)⟩
          case measure => simp [intOf]; omega
      · obtain ⟨j, hkj⟩ : ∃ j, k = j + 1 := ⟨k - 1, by omega⟩
        obtain ⟨b, off, rfl, c0, c1, c2⟩ := pt_at hrd hlt
        have hjl : j < l.length := by omega
        obtain ⟨b', off', e', d0, d1, d2⟩ := pt_at hrd hjl
        injection e' with e'
        injection e' with e1 e2 _
        subst e1; subst e2
        have hE := E.out
        rw [chain_succ' hlt hkj hjl] at hE
        have HRD := Lib.hid hrd
        clear hx hrd E
        clear d1 d2
        generalize l[k] = x at c0 c1 c2 hE
        generalize l[j].1 = y1 at d0 hE
        obtain ⟨x1, x2, x3⟩ := x
        simp only at c0 c1 c2 hE
        have d1 : (wr.alloc (.cells #[.int .i64 x1, .int .u64 x2, .int .u64 x3] 25)).cell? ⟨b, off + j * 3, none⟩ = some (.int .i64 y1) :=
          (World.cell?_of_block (Below.heap_alloc _ _ _ (World.block_lt_of_cell? _ _ d0))).trans d0
        clear d0
        have j0 : (0 : Int) < (k : Int) := by omega
        have j1 : 0 < k := by omega
        have jl : (j : Int) < (l.length : Int) := by omega
        have jp : (0 : Int) ≤ (j : Int) := by omega
        have jw : IntKind.i64.wrap ((k : Int) - 1) = (j : Int) := by rw [IntWalk.i64_in _ (by omega)]; omega
        clear hkj hk0
        have HBW := Lib.hid (BW.out.alloc BW.out.size (.cells #[.int .i64 x1, .int .u64 x2, .int .u64 x3] 25))
        by_cases hz : x3 = 0
        · have hE2 : R = false := by rw [hE]; simp [hz]
          have HE := Lib.hid hE2; clear hE hE2
          subst hz
          go_wp2
          go_quiet (fail)
          go_wp2
          go_ret
          exact ⟨by rw [HE.out]; rfl, below_drewN HBW.out _⟩
        · have hzb : (x3 == (0 : Int)) = false := by simp [hz]
          by_cases hy : x1 ≤ y1
          · have hE2 : R = false := by rw [hE]; simp [Int.not_lt.2 hy]
            have HE := Lib.hid hE2; clear hE hE2
            go_wp2
            go_quiet (fail)
            go_wp2
            go_ret
            exact ⟨by rw [HE.out]; rfl, below_drewN HBW.out _⟩
          · have hE2 : R = chainB (prevP l (k + 1)) (l.drop (k + 1)) := by rw [hE]; simp [hz]; omega
            have HE := Lib.hid hE2; clear hE hE2
            go_wp2
            go_quiet (fail)
            go_wp2
            go_roundw
            case rel => exact ⟨k + 1, by go_num, by omega, (show Aside _ from below_drewN HBW.out _), (show Aside _ from HE.out)⟩
            case measure => simp [intOf]; omega
    · obtain rfl : k = l.length := by omega
      have hE := E.out
      rw [List.drop_length, chain_nil] at hE
      have HE := Lib.hid hE; have HBW := Lib.hid BW.out; clear hE E BW
      go_wp2
      go_ret
      exact ⟨by rw [HE.out]; rfl, HBW.out⟩
theorem same_any (A B : Option Addr) (c d : Nat) (l m : List Pt) (w : World) (hx : Rd w A (pcells l)) (hy : Rd w B (pcells m)) (hl : l.length ≤ 100000) (hm : m.length ≤ 100000) :
    Calls Try.prog 12 #[.slice A l.length c, .slice B m.length d] w fun e w' => e = .returned (.bool (decide (l = m))) ∧ Below w.heap.size w w' := by
  by_cases hn : l.length = m.length
  · obtain ⟨R, hR⟩ : ∃ R, R = decide (l = m) := ⟨_, rfl⟩
    rw [← hR]
    have hst : R = decide (l.drop 0 = m.drop 0) := by rw [hR]; simp
    have HST := Lib.hid hst; clear hst hR
    have HN := Lib.hid hn
    have hn' : (l.length : Int) = (m.length : Int) := by omega
    go_enter Try.func12, Try.ntmps12
    go_wp2
    go_loopw [13] (fun s13 wr => ∃ k : Nat, s13 = .int .i64 k ∧ k ≤ l.length ∧ Aside (RowKit.Below w.heap.size w wr) ∧ Aside (R = decide (l.drop k = m.drop k))) (fun s13 _ => l.length - (intOf s13).toNat)
    case atStart => exact ⟨0, rfl, by omega, RowKit.Below.refl _ _, HST.out⟩
    case round =>
      obtain ⟨k, rfl, hk, BW, E⟩ := hrel
      have k0 : (0 : Int) ≤ (k : Int) := by omega
      by_cases hlt : k < l.length
      · have k1 : (k : Int) < (l.length : Int) := by omega
        have hlt2 : k < m.length := by omega
        have k2 : (k : Int) < (m.length : Int) := by omega
        obtain ⟨b, off, rfl, c0, c1, c2⟩ := pt_at (hx.below BW.out) hlt
        obtain ⟨b', off', rfl, d0, d1, d2⟩ := pt_at (hy.below BW.out) hlt2
        have hE := E.out
        rw [List.drop_eq_getElem_cons hlt, List.drop_eq_getElem_cons hlt2] at hE
        clear E
        generalize l[k] = x at c0 c1 c2 hE
        generalize m[k] = y at d0 d1 d2 hE
        obtain ⟨x1, x2, x3⟩ := x
        obtain ⟨y1, y2, y3⟩ := y
        simp only at c0 c1 c2 d0 d1 d2 hE
        have HBW := Lib.hid BW.out
        have HX := Lib.hid hx; have HY := Lib.hid hy
        clear hx hy BW
        by_cases hxy : (x1, x2, x3) = (y1, y2, y3)
        · have hE2 : R = decide (l.drop (k + 1) = m.drop (k + 1)) := by rw [hE]; simp [hxy]
          have HE := Lib.hid hE2; clear hE hE2
          simp only [Prod.mk.injEq] at hxy
          obtain ⟨rfl, rfl, rfl⟩ := hxy
          go_wp2
          go_quiet (fail)
          go_wp2
          go_roundw
          case rel => exact ⟨k + 1, by go_num, by omega, (show Aside _ from below_drewN HBW.out _), (show Aside _ from HE.out)⟩
          case measure => simp [intOf]; omega
        · have hE2 : R = false := by rw [hE]; simp; intro h1 h2 h3; exact absurd (by rw [h1, h2, h3]) hxy
          have HE := Lib.hid hE2; clear hE hE2
          by_cases h1 : x1 = y1
          · subst h1
            by_cases h2 : x2 = y2
            · subst h2
              have h3 : ¬ x3 = y3 := fun h => hxy (by rw [h])
              have b3 : (x3 == y3) = false := by simp [h3]
              clear hxy
              go_wp2
              go_quiet (fail)
              go_wp2
              go_ret
              exact ⟨by rw [HE.out]; rfl, below_drewN HBW.out _⟩
            · have b2 : (x2 == y2) = false := by simp [h2]
              clear hxy
              go_wp2
              go_quiet (fail)
              go_wp2
              go_ret
              exact ⟨by rw [HE.out]; rfl, below_drewN HBW.out _⟩
          · have b1 : (x1 == y1) = false := by simp [h1]
            clear hxy
            go_wp2
            go_quiet (fail)
            go_wp2
            go_ret
            exact ⟨by rw [HE.out]; rfl, below_drewN HBW.out _⟩
      · obtain rfl : k = l.length := by omega
        have hE := E.out
        rw [List.drop_length, HN.out, List.drop_length] at hE
        have HE := Lib.hid hE; have HBW := Lib.hid BW.out; clear hE E BW
        go_wp2
        go_ret
        exact ⟨by rw [HE.out]; simp, HBW.out⟩
  · have hn' : ¬ (l.length : Int) = (m.length : Int) := by omega
    have hd : decide (l = m) = false := by rw [decide_eq_false_iff_not]; rintro rfl; exact hn rfl
    rw [hd]
    go_enter Try.func12, Try.ntmps12
    go_wp2
    go_ret
    exact ⟨rfl, RowKit.Below.refl _ _⟩
end
end Go.Proofs.Ytinjdlplbficiaa
