/-
  Labels held against one another: which come first, by the program.
-/
import Derived.Test.YtgibcfeioljofaaGreatDoorSm0
import Derived.Test.YtgibcfeioljofaaGreatDoorShelf
import Derived.Deep.RegionHeld3
import Derived.Lib.SliceRun
namespace Go.Proofs.YtgibcfeioljofaaGreatDoor
set_option linter.unusedVariables false
set_option linter.unusedSimpArgs false
open Go.RowKit
def orP (a b : Int) : Int := if a ≠ 0 then a else b
theorem compareP_nil : compareP [] [] = 0 := rfl
theorem compareP_cons (x y : Lb) (a b : List Lb) : compareP (x :: a) (y :: b) = if x = y then compareP a b else orP (Lib.compareBytes (bl x.1) (bl y.1)) (Lib.compareBytes (bl x.2) (bl y.2)) := by
  rw [compareP]
  by_cases h : x = y
  · subst h; rw [if_pos rfl, if_neg (by rw [cmpB_self]; simp), if_neg (by rw [cmpB_self]; simp)]
  · rw [if_neg h]
    unfold orP
    by_cases h1 : Lib.compareBytes (bl x.1) (bl y.1) = 0
    · have n1 : ¬ (Lib.compareBytes (bl x.1) (bl y.1) ≠ 0) := fun hh => hh h1
      rw [if_neg n1, if_neg n1]
      have h2 : Lib.compareBytes (bl x.2) (bl y.2) ≠ 0 := fun h2 => h (Prod.ext (bl_inj (cmpB_zero.1 h1)) (bl_inj (cmpB_zero.1 h2)))
      rw [if_pos h2]
    · have n1 : Lib.compareBytes (bl x.1) (bl y.1) ≠ 0 := h1
      rw [if_pos n1, if_pos n1]
theorem compareP_end : ∀ (k : Nat) (l m : List Lb), k = min l.length m.length → l.take k = m.take k → compareP (l.drop k) (m.drop k) = Lib.compareInt l.length m.length := by
  intro k l m hk _
  unfold Lib.compareInt
  by_cases h1 : l.length < m.length
  · rw [if_pos (by omega)]
    have : l.drop k = [] := List.drop_eq_nil_of_le (by omega)
    rw [this]
    cases hd : m.drop k with
    | nil => have := congrArg List.length hd; rw [List.length_drop, List.length_nil] at this; omega
    | cons _ _ => rfl
  · rw [if_neg (by omega)]
    have hmk : m.drop k = [] := List.drop_eq_nil_of_le (by omega)
    rw [hmk]
    by_cases h2 : m.length < l.length
    · rw [if_pos (by omega)]
      cases hd : l.drop k with
      | nil => have := congrArg List.length hd; rw [List.length_drop, List.length_nil] at this; omega
      | cons _ _ => rfl
    · rw [if_neg (by omega)]
      have : l.drop k = [] := List.drop_eq_nil_of_le (by omega)
      rw [this]; rfl
section
set_option maxHeartbeats 1600000
set_option maxRecDepth 100000
theorem cor_any (g : Nat) (a b : Int) (w : World) (ha : w.cell? ⟨g, 0, none⟩ = some (.int .i64 a)) (hb : w.cell? ⟨g, 1, none⟩ = some (.int .i64 b)) :
    Calls Tryz.prog 61 #[.slice (some ⟨g, 0, none⟩) 2 2] w fun e w' => e = .returned (.int .i64 (orP a b)) ∧ w' = w := by
  unfold orP
  by_cases h1 : a = 0
  · subst h1
    rw [if_neg (by simp)]
    go_enter Tryz.func61, Tryz.ntmps61
    go_wp2
    go_loop [8] (fun s8 => s8 = .int .i64 0 ∨ s8 = .int .i64 1 ∨ (s8 = .int .i64 2 ∧ b = 0)) (fun s8 => 2 - (intOf s8).toNat)
    case atStart => exact .inl rfl
    case round =>
      rcases hrel with rfl | rfl | ⟨rfl, rfl⟩
      · go_wp2
        go_round
        case rel => exact .inr (.inl rfl)
        case measure => simp [intOf]
      · by_cases h2 : b = 0
        · subst h2
          go_wp2
          go_round
          case rel => first | exact .inr (.inr ⟨rfl, rfl⟩) | exact .inr (.inr ⟨rfl, trivial⟩)
          case measure => simp [intOf]
        · have g1 : (b != 0) = true := by rw [bne_iff_ne]; exact h2
          go_wp2
          go_ret
          exact ⟨rfl, rfl⟩
      · go_wp2
        go_ret
        exact ⟨rfl, rfl⟩
  · rw [if_pos h1]
    have g1 : (a != 0) = true := by rw [bne_iff_ne]; exact h1
    go_enter Tryz.func61, Tryz.ntmps61
    go_wp2
    go_loop [8] (fun s8 => s8 = .int .i64 0) (fun s8 => 2 - (intOf s8).toNat)
    case atStart => rfl
    case round =>
      obtain rfl := hrel
      go_wp2
      go_ret
      exact ⟨rfl, rfl⟩
theorem compare_any (A B : Option Addr) (ca cb : Nat) (l m : List Lb) (w : World) (hx : Rd w A (lcells l)) (hy : Rd w B (lcells m)) (hl : l.length ≤ 1000000) (hm : m.length ≤ 1000000) :
    Calls Tryz.prog 30 #[.slice A l.length ca, .slice B m.length cb] w fun e w' => e = .returned (.int .i64 (compareP l m)) ∧ Below w.heap.size w w' := by
  obtain ⟨R, hR⟩ : ∃ R, R = compareP l m := ⟨_, rfl⟩
  rw [← hR]
  have HR := Lib.hid hR; clear hR
  obtain ⟨N, hN⟩ : ∃ N, N = min l.length m.length := ⟨_, rfl⟩
  have hmin : min (l.length : Int) (m.length : Int) = (N : Int) := by omega
  have hN1 : N ≤ l.length := by omega
  have hN2 : N ≤ m.length := by omega
  have HN := Lib.hid hN; clear hN
  go_enter Tryz.func30, Tryz.ntmps30
  go_wp2
  go_loopw [11] (fun s11 wr => ∃ k n : Nat, s11 = .int .i64 k ∧ k ≤ N ∧ wr = w.drewN n ∧ Aside (l.take k = m.take k) ∧ Aside (R = compareP (l.drop k) (m.drop k))) (fun s11 _ => N - (intOf s11).toNat)
  case atStart => exact ⟨0, 0, rfl, by omega, rfl, rfl, HR.out⟩
  case round =>
    obtain ⟨k, n, rfl, hk, rfl, E, F⟩ := hrel
    have k0 : (0 : Int) ≤ (k : Int) := by omega
    by_cases hlt : k < N
    · have hlt1 : k < l.length := by omega
      have hlt2 : k < m.length := by omega
      have k1 : (k : Int) < (N : Int) := by omega
      have k2 : (k : Int) < (l.length : Int) := by omega
      have k3 : (k : Int) < (m.length : Int) := by omega
      have hnn : ∀ q, (w.drewN n).drewN q = w.drewN (n + q) := fun q => World.drewN_drewN _ _ _
      obtain ⟨b, off, rfl, c0, c1⟩ := lb_at (hx.drewN n) hlt1
      obtain ⟨b', off', rfl, d0, d1⟩ := lb_at (hy.drewN n) hlt2
      have HNN := Lib.hid hnn; clear hnn
      have hbw : Below w.heap.size w (w.drewN n) := below_drewN (Below.refl _ _) n
      have hsz : (w.drewN n).heap.size = w.heap.size := rfl
      generalize hW : w.drewN n = W at c0 c1 d0 d1 HNN hbw hsz
      have HW := Lib.hid hW; clear hW hx hy
      have hneq := fun u => neqLb l[k] m[k] u
      have hgd := fun op a b u => guardLb op a b l[k] m[k] u
      have hF := F.out
      rw [List.drop_eq_getElem_cons hlt1, List.drop_eq_getElem_cons hlt2, compareP_cons] at hF
      have hstep : l[k] = m[k] → l.take (k + 1) = m.take (k + 1) := fun h => by
        rw [List.take_succ_eq_append_getElem hlt1, List.take_succ_eq_append_getElem hlt2, E.out, h]
      have HS := Lib.hid hstep; clear hstep F
      generalize l[k] = x at c0 c1 hneq hgd hF HS
      generalize m[k] = y at d0 d1 hneq hgd hF HS
      by_cases he : x = y
      · simp only [he, decide_true, Bool.not_true] at hneq
        rw [if_pos he] at hF
        have HST := Lib.hid (HS.out he)
        have HF := Lib.hid hF; clear hF
        subst he
        obtain ⟨x1, x2⟩ := x
        simp only at c0 c1 d0 d1 hneq hgd
        clear HS hbw hsz
        go_wp2_with fail
        go_quiet (fail)
        go_wp2
        go_roundw
        case rel => exact ⟨k + 1, n + nq, by go_num, by omega, by rw [HNN.out], (show Aside _ from HST.out), (show Aside _ from HF.out)⟩
        case measure => simp [intOf]; omega
      · simp only [he, decide_false, Bool.not_false] at hneq
        rw [if_neg he] at hF
        obtain ⟨x1, x2⟩ := x
        obtain ⟨y1, y2⟩ := y
        simp only at c0 c1 d0 d1 hneq hgd hF
        have hc1 := fun W => Tryz.strings_Compare x1 y1 W
        have hc2 := fun W => Tryz.strings_Compare x2 y2 W
        unfold bl at hF
        generalize Lib.compareBytes x1.data.toList y1.data.toList = r1 at hc1 hF
        generalize Lib.compareBytes x2.data.toList y2.data.toList = r2 at hc2 hF
        have hr : R = orP r1 r2 := hF
        subst hr
        have hco := fun g W h1 h2 => cor_any g r1 r2 W h1 h2
        have HCO := Lib.hid hco; clear hco hF
        have HC1 := Lib.hid hc1; clear hc1
        have HC2 := Lib.hid hc2; clear hc2
        have HBW := Lib.hid hbw; clear hbw
        clear HS he
        go_wp2_with fail
        go_quiet (fail)
        go_wp2_with fail
        have c0' : (W.drewN nq).cell? ⟨b, off + k * 2, none⟩ = some (.string x1) := c0
        have c1' : (W.drewN nq).cell? ⟨b, off + k * 2 + 1, none⟩ = some (.string x2) := c1
        have d0' : (W.drewN nq).cell? ⟨b', off' + k * 2, none⟩ = some (.string y1) := d0
        have d1' : (W.drewN nq).cell? ⟨b', off' + k * 2 + 1, none⟩ = some (.string y2) := d1
        have HBW2 := Lib.hid (below_drewN HBW.out nq)
        clear c0 c1 d0 d1 hneq hgd
        generalize W.drewN nq = V at c0' c1' d0' d1' HBW2 ⊢
        go_region_held3 (fun w' => w'.cell? ⟨b, off + k * 2, none⟩ = some (.string x1) ∧ w'.cell? ⟨b, off + k * 2 + 1, none⟩ = some (.string x2) ∧ w'.cell? ⟨b', off' + k * 2, none⟩ = some (.string y1) ∧ w'.cell? ⟨b', off' + k * 2 + 1, none⟩ = some (.string y2)) (first | exact ⟨c0', c1', d0', d1'⟩ | exact ⟨Lib.cell?_alloc_some _ c0', Lib.cell?_alloc_some _ c1', Lib.cell?_alloc_some _ d0', Lib.cell?_alloc_some _ d1'⟩) (first
          | (go_at_call 52; (with_reducible refine (HC1.out _).mono ?_); rintro e w7 ⟨rfl, rfl⟩)
          | (go_at_call 52; (with_reducible refine (HC2.out _).mono ?_); rintro e w7 ⟨rfl, rfl⟩)
          | (go_at_call 61; (with_reducible refine (HCO.out _ _ ?_ ?_).mono ?_); exact cell_blk (heap_alloc_new _ _) 0; exact cell_blk (heap_alloc_new _ _) 1; rintro e w7 ⟨rfl, rfl⟩))
        all_goals
          go_wp2
          go_ret
          exact ⟨rfl, (HBW2.out.alloc HBW2.out.size _).drew⟩
    · obtain rfl : k = N := by omega
      have hr : R = Lib.compareInt l.length m.length := by rw [F.out]; exact compareP_end _ l m HN.out E.out
      have hc := Tryz.cmp_Compare_int (l.length : Int) (m.length : Int) (w.drewN n)
      rw [← hr] at hc
      have HC := Lib.hid hc; clear hc hr
      go_wp2_with (first | (go_at_call 62; refine HC.out.mono ?_; rintro e w1 ⟨rfl, rfl⟩) | fail)
      go_ret
      exact ⟨rfl, below_drewN (Below.refl _ _) n⟩
end
end Go.Proofs.YtgibcfeioljofaaGreatDoor
