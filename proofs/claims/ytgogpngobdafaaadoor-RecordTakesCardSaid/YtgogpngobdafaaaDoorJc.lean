/-
  What is wrong with a record: the program's own.
-/
import Derived.Test.YtgogpngobdafaaaDoorJb
import Derived.Test.YtgogpngobdafaaaDoorRg
namespace Go.Proofs.YtgogpngobdafaaaDoor
set_option linter.unusedVariables false
set_option linter.unusedSimpArgs false
open Go.RowKit
/-- Can a point be none of a record's? -/
def noE (x : En) : Bool := decide (x.1 = 0) || decide (x.2.2.2 = 0)
section
set_option maxHeartbeats 1600000
set_option maxRecDepth 100000
theorem noent_any (x : En) (w : World) : Calls Tryd.prog 81 #[aggEn x] w fun e w' => e = .returned (.bool (noE x)) ∧ Below w.heap.size w w' := by
  obtain ⟨r, t, v, s⟩ := x
  unfold noE aggEn boxEn
  simp only
  have hb := (RowKit.Below.refl w.heap.size w).alloc (Nat.le_refl _) (.cells #[.int .u32 (r : Nat), .int .i64 t, .int .u64 (v : Nat), .int .u64 (s : Nat)] 47)
  have HB := Lib.hid hb; clear hb
  by_cases h1 : r = 0
  · subst h1
    go_enter Tryd.func81, Tryd.ntmps81
    go_wp2
    go_ret
    exact ⟨by simp, HB.out⟩
  · have g1 : ((r : Int) == 0) = false := by simp; omega
    have d1 : decide (r = 0) = false := decide_eq_false h1
    rw [d1, Bool.false_or]
    clear d1 h1
    by_cases h2 : s = 0
    · subst h2
      go_enter Tryd.func81, Tryd.ntmps81
      go_wp2
      go_ret
      exact ⟨by simp, HB.out⟩
    · have g2 : ((s : Int) == 0) = false := by simp; omega
      rw [decide_eq_false h2]
      clear h2
      go_enter Tryd.func81, Tryd.ntmps81
      go_wp2
      go_ret
      exact ⟨rfl, HB.out⟩
def idxE (p : En → Bool) (l : List En) : Int := if l.findIdx p < l.length then (l.findIdx p : Nat) else -1
theorem ifne_any (A : Option Addr) (c : Nat) (l : List En) (w : World) (hx : Rd w A (ecells l)) (hl : l.length ≤ 1000000) :
    Calls Tryd.prog 102 #[.slice A l.length c, .func (.func 81) #[] #[]] w fun e w' => e = .returned (.int .i64 (idxE noE l)) ∧ Below w.heap.size w w' := by
  obtain ⟨R, hR⟩ : ∃ R, R = idxE noE l := ⟨_, rfl⟩
  rw [← hR]
  have HR := Lib.hid hR; clear hR
  go_enter Tryd.func102, Tryd.ntmps102
  go_wp2
  go_loopw [8] (fun s8 wr => ∃ k : Nat, k ≤ l.length ∧ s8 = .int .i64 k ∧ Aside (Below w.heap.size w wr) ∧ Aside (∀ j, (h : j < k) → (h' : j < l.length) → noE l[j] = false)) (fun s8 _ => l.length - (intOf s8).toNat)
  case atStart => exact ⟨0, Nat.zero_le _, rfl, Below.refl _ w, fun j hj => absurd hj (Nat.not_lt_zero _)⟩
  case round =>
    obtain ⟨k, hk, rfl, B, F⟩ := hrel
    by_cases hlt : k < l.length
    · have hxr := hx.below B.out
      obtain ⟨b, off, rfl, c0, c1, c2, c3⟩ := en_at hxr (List.getElem?_eq_getElem hlt)
      have hcall := noent_any l[k] wr
      generalize hy : l[k] = y at c0 c1 c2 c3 hcall
      have HY := Lib.hid hy; clear hy hxr hx
      obtain ⟨y1, y2, y3, y4⟩ := y
      unfold aggEn boxEn at hcall
      simp only at c0 c1 c2 c3 hcall
      have k0 : (0 : Int) ≤ (k : Int) := by omega
      have k1 : (k : Int) < (l.length : Int) := by omega
      cases hq : noE (y1, y2, y3, y4) with
      | true =>
        rw [hq] at hcall
        have HQ := Lib.hid hq; clear hq
        have HC := Lib.hid hcall; clear hcall
        go_wp2_with fail
        refine HC.out.mono ?_
        rintro e w1 ⟨rfl, hb⟩
        go_wp2
        go_ret
        refine ⟨?_, B.out.trans (hb.mono B.out.size)⟩
        rw [HR.out]
        unfold idxE
        have : l.findIdx noE = k := by
          rw [List.findIdx_eq hlt]
          exact ⟨by rw [HY.out]; exact HQ.out, fun j hj => F.out j hj (by omega)⟩
        rw [this, if_pos hlt]
        rfl
      | false =>
        rw [hq] at hcall
        have HQ := Lib.hid hq; clear hq
        have HC := Lib.hid hcall; clear hcall
        go_wp2_with fail
        refine HC.out.mono ?_
        rintro e w1 ⟨rfl, hb⟩
        go_wp2
        go_roundw
        case rel =>
          refine ⟨k + 1, by omega, by go_num, (show Aside _ from B.out.trans (hb.mono B.out.size)), (show Aside _ from fun j hj hj' => ?_)⟩
          by_cases e : j = k
          · subst e; rw [HY.out]; exact HQ.out
          · exact F.out j (by omega) hj'
        case measure => simp [intOf]; omega
    · obtain rfl : k = l.length := by omega
      go_wp2
      go_ret
      refine ⟨?_, B.out⟩
      rw [HR.out]
      unfold idxE
      have hn : ¬ l.findIdx noE < l.length := fun h => by
        have := List.findIdx_getElem (w := h)
        rw [F.out _ h h] at this
        cases this
      rw [if_neg hn]
      rfl
theorem con_any (A : Option Addr) (c : Nat) (l : List En) (w : World) (hx : Rd w A (ecells l)) (hl : l.length ≤ 1000000) :
    Calls Tryd.prog 80 #[.slice A l.length c, .func (.func 81) #[] #[]] w fun e w' => e = .returned (.bool (l.any noE)) ∧ Below w.heap.size w w' := by
  have hi := ifne_any A c l w hx hl
  have h1 : (decide (0 ≤ idxE noE l)) = l.any noE := by
    unfold idxE
    cases ha : l.any noE with
    | true =>
      rw [List.any_eq_true] at ha
      have : l.findIdx noE < l.length := List.findIdx_lt_length.2 ha
      rw [if_pos this]
      exact decide_eq_true (by omega)
    | false =>
      rw [List.any_eq_false] at ha
      have : ¬ l.findIdx noE < l.length := fun h => by
        obtain ⟨x, hx, hp⟩ := List.findIdx_lt_length.1 h
        exact ha x hx hp
      rw [if_neg this]
      rfl
  rw [← h1]
  generalize idxE noE l = q at hi
  have HI := Lib.hid hi; clear hi h1 hx
  go_enter Tryd.func80, Tryd.ntmps80
  go_wp2_with fail
  refine HI.out.mono ?_
  rintro e w1 ⟨rfl, hb⟩
  go_wp2
  go_ret
  exact ⟨rfl, hb⟩
/-- What is wrong with the number behind a kind. -/
def headP (kd : Int) (n : Nat) : Nat := if kd = 2 ∧ 256 < n then 3 else if n = 0 ∨ 4294967295 < n then 1 else 0
theorem head_two (n : Nat) (w : World) (hn : n < 18446744073709551616) : Calls Tryd.prog 79 #[.int .i64 2, .int .u64 (n : Nat)] w fun e w' => e = .returned (.int .i64 ((if 256 < n then 3 else if n = 0 then 1 else 0 : Nat) : Nat)) ∧ w' = w := by
  by_cases h1 : 256 < n
  · have g1 : (256 : Int) < (n : Int) := by omega
    rw [if_pos h1]
    go_enter Tryd.func79, Tryd.ntmps79
    go_wp2
    go_ret
    exact ⟨rfl, rfl⟩
  · have g1 : ¬ (256 : Int) < (n : Int) := by omega
    rw [if_neg h1]
    by_cases h2 : n = 0
    · subst h2
      go_enter Tryd.func79, Tryd.ntmps79
      go_wp2
      go_ret
      exact ⟨rfl, rfl⟩
    · have g2 : ((n : Int) == 0) = false := by simp; omega
      have g3 : ¬ (4294967295 : Int) < (n : Int) := by omega
      rw [if_neg h2]
      clear h2
      go_enter Tryd.func79, Tryd.ntmps79
      go_wp2
      go_ret
      exact ⟨rfl, rfl⟩
theorem head_one (n : Nat) (w : World) (hn : n < 18446744073709551616) : Calls Tryd.prog 79 #[.int .i64 1, .int .u64 (n : Nat)] w fun e w' => e = .returned (.int .i64 ((if n = 0 ∨ 4294967295 < n then 1 else 0 : Nat) : Nat)) ∧ w' = w := by
  by_cases h2 : n = 0
  · subst h2
    go_enter Tryd.func79, Tryd.ntmps79
    go_wp2
    go_ret
    exact ⟨rfl, rfl⟩
  · have g2 : ((n : Int) == 0) = false := by simp; omega
    by_cases h3 : 4294967295 < n
    · have g3 : (4294967295 : Int) < (n : Int) := by omega
      rw [if_pos (.inr h3)]
      clear h2
      go_enter Tryd.func79, Tryd.ntmps79
      go_wp2
      go_ret
      exact ⟨rfl, rfl⟩
    · have g3 : ¬ (4294967295 : Int) < (n : Int) := by omega
      rw [if_neg (by omega)]
      clear h2
      go_enter Tryd.func79, Tryd.ntmps79
      go_wp2
      go_ret
      exact ⟨rfl, rfl⟩
theorem ser_any (x : Rv) (w : World) (hT : Tabs w) (hx : RvIs w x) (hf : Few x.ls) :
    Calls Tryd.prog 46 #[.agg (rvC x)] w fun e w' => e = .returned (.int .i64 ((if x.r = 0 ∨ 0 < x.ps.length then 1 else rightP x.ls : Nat) : Nat)) ∧ Below w.heap.size w w' := by
  obtain ⟨kd, r, A, ca, ls, B, cb, ps⟩ := x
  have hr := fun W (hb : Below w.heap.size w W) => right_any A ca ls W (hT.below hb) (hx.la.below hb) hf
  unfold rvC
  simp only at hr ⊢
  have hb := (RowKit.Below.refl w.heap.size w).alloc (Nat.le_refl _) (.cells #[.int .i64 kd, .int .u32 (r : Nat), .slice A ls.length ca, .slice B ps.length cb] 27)
  have HB := Lib.hid hb; clear hb
  have HR := Lib.hid hr; clear hr hx hT hf
  by_cases h1 : r = 0
  · subst h1
    rw [if_pos (.inl rfl)]
    go_enter Tryd.func46, Tryd.ntmps46
    go_wp2
    go_ret
    exact ⟨rfl, HB.out⟩
  · have g1 : ((r : Int) == 0) = false := by simp; omega
    by_cases h2 : 0 < ps.length
    · have g2 : (0 : Int) < (ps.length : Int) := by omega
      rw [if_pos (.inr h2)]
      clear h1
      go_enter Tryd.func46, Tryd.ntmps46
      go_wp2
      go_ret
      exact ⟨rfl, HB.out⟩
    · have g2 : ¬ (0 : Int) < (ps.length : Int) := by omega
      rw [if_neg (by omega)]
      generalize rightP ls = q at HR ⊢
      clear h1
      go_enter Tryd.func46, Tryd.ntmps46
      go_wp2_with fail
      refine (HR.out _ HB.out).mono ?_
      rintro e w1 ⟨rfl, hb1⟩
      have HB1 := Lib.hid (HB.out.trans (hb1.mono HB.out.size)); clear hb1
      go_wp2
      go_ret
      exact ⟨rfl, HB1.out⟩
theorem pts_any (x : Rv) (w : World) (hx : RvIs w x) (hl : x.ps.length ≤ 1000000) :
    Calls Tryd.prog 47 #[.agg (rvC x)] w fun e w' => e = .returned (.int .i64 ((if 0 < x.r ∨ 0 < x.ls.length then 1 else if x.ps.length = 0 then 1 else if 256 < x.ps.length then 3 else if x.ps.any noE then 1 else 0 : Nat) : Nat)) ∧ Below w.heap.size w w' := by
  obtain ⟨kd, r, A, ca, ls, B, cb, ps⟩ := x
  have hr := fun W (hb : Below w.heap.size w W) => con_any B cb ps W (hx.lb.below hb) hl
  unfold rvC
  simp only at hr hl ⊢
  have hb := (RowKit.Below.refl w.heap.size w).alloc (Nat.le_refl _) (.cells #[.int .i64 kd, .int .u32 (r : Nat), .slice A ls.length ca, .slice B ps.length cb] 27)
  have hh := fun W => head_two ps.length W (by omega)
  have HH := Lib.hid hh; clear hh
  have HB := Lib.hid hb; clear hb
  have HR := Lib.hid hr; clear hr hx
  by_cases h1 : 0 < r
  · have g1 : (0 : Int) < (r : Int) := by omega
    rw [if_pos (.inl h1)]
    go_enter Tryd.func47, Tryd.ntmps47
    go_wp2
    go_ret
    exact ⟨rfl, HB.out⟩
  · have g1 : ¬ (0 : Int) < (r : Int) := by omega
    by_cases h2 : 0 < ls.length
    · have g2 : (0 : Int) < (ls.length : Int) := by omega
      rw [if_pos (.inr h2)]
      go_enter Tryd.func47, Tryd.ntmps47
      go_wp2
      go_ret
      exact ⟨rfl, HB.out⟩
    · have g2 : ¬ (0 : Int) < (ls.length : Int) := by omega
      rw [if_neg (by omega)]
      by_cases h3 : ps.length = 0
      · rw [if_pos h3]
        have HH' : ∀ W, Calls Tryd.prog 79 #[.int .i64 2, .int .u64 (ps.length : Nat)] W fun e w' => e = .returned (.int .i64 1) ∧ w' = W := by
          intro W; have := HH.out W; rw [if_neg (by omega), if_pos h3] at this; exact this
        have HHH := Lib.hid HH'; clear HH' HH h3
        go_enter Tryd.func47, Tryd.ntmps47
        go_wp2_with fail
        refine (HHH.out _).mono ?_
        rintro e w1 ⟨rfl, rfl⟩
        go_wp2
        go_ret
        exact ⟨rfl, HB.out⟩
      · rw [if_neg h3]
        by_cases h4 : 256 < ps.length
        · rw [if_pos h4]
          have HH' : ∀ W, Calls Tryd.prog 79 #[.int .i64 2, .int .u64 (ps.length : Nat)] W fun e w' => e = .returned (.int .i64 3) ∧ w' = W := by
            intro W; have := HH.out W; rw [if_pos h4] at this; exact this
          have HHH := Lib.hid HH'; clear HH' HH h3
          go_enter Tryd.func47, Tryd.ntmps47
          go_wp2_with fail
          refine (HHH.out _).mono ?_
          rintro e w1 ⟨rfl, rfl⟩
          go_wp2
          go_ret
          exact ⟨rfl, HB.out⟩
        · rw [if_neg h4]
          have HH' : ∀ W, Calls Tryd.prog 79 #[.int .i64 2, .int .u64 (ps.length : Nat)] W fun e w' => e = .returned (.int .i64 0) ∧ w' = W := by
            intro W; have := HH.out W; rw [if_neg h4, if_neg h3] at this; exact this
          have HHH := Lib.hid HH'; clear HH' HH h3
          generalize ps.any noE = q at HR ⊢
          cases q with
          | true =>
            rw [if_pos rfl]
            go_enter Tryd.func47, Tryd.ntmps47
            go_wp2_with fail
            refine (HHH.out _).mono ?_
            rintro e w1 ⟨rfl, rfl⟩
            go_wp2_with fail
            refine (HR.out _ HB.out).mono ?_
            rintro e w1 ⟨rfl, hb1⟩
            have HB1 := Lib.hid (HB.out.trans (hb1.mono HB.out.size)); clear hb1
            go_wp2
            go_ret
            exact ⟨rfl, HB1.out⟩
          | false =>
            rw [if_neg (by decide)]
            go_enter Tryd.func47, Tryd.ntmps47
            go_wp2_with fail
            refine (HHH.out _).mono ?_
            rintro e w1 ⟨rfl, rfl⟩
            go_wp2_with fail
            refine (HR.out _ HB.out).mono ?_
            rintro e w1 ⟨rfl, hb1⟩
            have HB1 := Lib.hid (HB.out.trans (hb1.mono HB.out.size)); clear hb1
            go_wp2
            go_ret
            exact ⟨rfl, HB1.out⟩
theorem check_any (x : Rv) (w : World) (hT : Tabs w) (hx : RvIs w x) (hf : Few x.ls) (hl : x.ps.length ≤ 1000000) :
    Calls Tryd.prog 18 #[.agg (rvC x)] w fun e w' => e = .returned (.int .i64 (checkR x.p : Nat)) ∧ Below w.heap.size w w' := by
  have hs := fun W (hb : Below w.heap.size w W) => ser_any x W (hT.below hb) (hx.below hb) hf
  have hp := fun W (hb : Below w.heap.size w W) => pts_any x W (hx.below hb) hl
  have hb := (RowKit.Below.refl w.heap.size w).alloc (Nat.le_refl _) (.cells (rvC x) 27)
  have HB := Lib.hid hb; clear hb
  obtain ⟨R, hR⟩ : ∃ R, R = checkR x.p := ⟨_, rfl⟩
  rw [← hR]
  unfold checkR Rv.p at hR
  simp only at hR
  change R = (if x.kd = 1 then _ else if x.kd = 2 then (if 0 < x.r ∨ 0 < x.ls.length then 1 else if x.ps.length = 0 then 1 else if 256 < x.ps.length then 3 else if x.ps.any noE then 1 else 0) else 130) at hR
  generalize (if x.r = 0 ∨ 0 < x.ps.length then 1 else rightP x.ls : Nat) = q1 at hs hR
  generalize (if 0 < x.r ∨ 0 < x.ls.length then 1 else if x.ps.length = 0 then 1 else if 256 < x.ps.length then 3 else if x.ps.any noE then 1 else 0 : Nat) = q2 at hp hR
  have HS := Lib.hid hs; clear hs
  have HP := Lib.hid hp; clear hp hx hT hf hl
  obtain ⟨kd, r, A, ca, ls, B, cb, ps⟩ := x
  unfold rvC at *
  simp only at *
  by_cases h1 : kd = 1
  · subst h1
    rw [if_pos rfl] at hR
    subst hR
    clear HP
    go_enter Tryd.func18, Tryd.ntmps18
    go_wp2_with fail
    refine (HS.out _ HB.out).mono ?_
    rintro e w1 ⟨rfl, hb1⟩
    have HB1 := Lib.hid (HB.out.trans (hb1.mono HB.out.size)); clear hb1
    go_wp2
    go_ret
    exact ⟨rfl, HB1.out⟩
  · have g1 : (kd == 1) = false := by simp [h1]
    rw [if_neg h1] at hR
    by_cases h2 : kd = 2
    · subst h2
      rw [if_pos rfl] at hR
      subst hR
      clear HS
      go_enter Tryd.func18, Tryd.ntmps18
      go_wp2_with fail
      refine (HP.out _ HB.out).mono ?_
      rintro e w1 ⟨rfl, hb1⟩
      have HB1 := Lib.hid (HB.out.trans (hb1.mono HB.out.size)); clear hb1
      go_wp2
      go_ret
      exact ⟨rfl, HB1.out⟩
    · have g2 : (kd == 2) = false := by simp [h2]
      rw [if_neg h2] at hR
      subst hR
      clear HS HP h1 h2
      go_enter Tryd.func18, Tryd.ntmps18
      go_wp2
      go_ret
      exact ⟨rfl, HB.out⟩
end
end Go.Proofs.YtgogpngobdafaaaDoor
