/-
  Two rows of bytes, held against one another by the plain answers' own function: it tells whether they are the same list.
-/
import Derived.Test.YtgogpngobdafaaaDoorRows
import Derived.Test.YtgogpngobdafaaaDoorGen
namespace Go.Proofs.YtgogpngobdafaaaDoor
set_option linter.unusedVariables false
set_option linter.unusedSimpArgs false
open Go.RowKit
section
set_option maxHeartbeats 400000

theorem equal_any (A B : Option Addr) (ca cb : Nat) (xs ys : List UInt8) (w : World) (hx : Rd w A (xs.map Bv)) (hy : Rd w B (ys.map Bv))
   (hlx : xs.length ≤ 9223372036854775807) (hly : ys.length ≤ 9223372036854775807) :
    Calls Tryd.prog 17 #[.slice A xs.length ca, .slice B ys.length cb] w fun e w' => e = .returned (.bool (decide (xs = ys))) ∧ ∃ n, w' = w.drewN n := by
  by_cases hl : xs.length = ys.length
  · have hl' : ((xs.length : Int) != ys.length) = false := by simp [hl]
    have Hl := Lib.hid hl; clear hl
    go_enter Tryd.func17, Tryd.ntmps17
    go_wp2
    go_loopw [13] (fun i wr => ∃ k n : Nat, k ≤ xs.length ∧ i = .int .i64 k ∧ xs.take k = ys.take k ∧ wr = w.drewN n) (fun i _ => xs.length - (intOf i).toNat)
    case atStart => exact ⟨0, 0, by omega, rfl, by simp, rfl⟩
    case round =>
      obtain ⟨k, n, hk, rfl, ht, rfl⟩ := hrel
      have Ht := Lib.hid ht; clear ht
      by_cases hlt : k < xs.length
      · obtain ⟨b, off, rfl, hc⟩ := hx.byte hlt
        obtain ⟨b', off', rfl, hc'⟩ := hy.byte (k := k) (by rw [← Hl.out]; exact hlt)
        have hlt' : k < ys.length := by rw [← Hl.out]; exact hlt
        by_cases hb : xs[k] = ys[k]
        · have hb' : ((xs[k].toNat : Int) != ys[k].toNat) = false := by simp [hb]
          have Hb := Lib.hid hb; clear hb
          go_wp2
          go_quiet (fail)
          go_wp2
          go_roundw
          case rel => exact ⟨k+1, _, by omega, by go_num, take_succ_eq hlt hlt' Ht.out Hb.out, rfl⟩
          case measure => simp [intOf]; omega
        · have hb' : ((xs[k].toNat : Int) != ys[k].toNat) = true := by rw [bne_iff_ne]; intro e; exact hb (UInt8.toNat_inj.1 (by omega))
          have hne : xs ≠ ys := by rintro rfl; exact hb rfl
          have Hb := Lib.hid hb; clear hb
          have Hne := Lib.hid hne; clear hne
          go_wp2
          go_quiet (fail)
          go_wp2
          go_ret
          exact ⟨by simp [Hne.out], _, World.drewN_drewN _ _ _⟩
      · have hlt' : ¬ k < ys.length := by rw [← Hl.out]; exact hlt
        have he : xs = ys := by have := Ht.out; rwa [List.take_of_length_le (by omega), List.take_of_length_le (by omega)] at this
        have He := Lib.hid he; clear he
        go_wp2
        go_ret
        exact ⟨by simp [He.out], _, rfl⟩
  · have hl' : ((xs.length : Int) != ys.length) = true := by simp; omega
    have hne : xs ≠ ys := by rintro rfl; exact hl rfl
    have Hne := Lib.hid hne; clear hne
    clear hl
    go_enter Tryd.func17, Tryd.ntmps17
    go_wp2
    go_ret
    exact ⟨by simp [Hne.out], 0, rfl⟩

theorem equal_at (A B : Option Addr) (ca cb la lb : Nat) (xs ys : List UInt8) (w : World) (hla : xs.length = la) (hlb : ys.length = lb) (hx : Rd w A (xs.map Bv)) (hy : Rd w B (ys.map Bv))
   (hlx : xs.length ≤ 9223372036854775807) (hly : ys.length ≤ 9223372036854775807) :
    Calls Tryd.prog 17 #[.slice A la ca, .slice B lb cb] w fun e w' => e = .returned (.bool (decide (xs = ys))) ∧ ∃ n, w' = w.drewN n := by
  subst hla hlb
  exact equal_any A B ca cb xs ys w hx hy hlx hly

theorem equal_yes (A B : Option Addr) (ca cb la lb : Nat) (xs ys : List UInt8) (w : World) (he : xs = ys) (hla : xs.length = la) (hlb : ys.length = lb) (hx : Rd w A (xs.map Bv)) (hy : Rd w B (ys.map Bv))
   (hlx : xs.length ≤ 9223372036854775807) :
    Calls Tryd.prog 17 #[.slice A la ca, .slice B lb cb] w fun e w' => e = .returned (.bool true) ∧ ∃ n, w' = w.drewN n := by
  have h := equal_at A B ca cb la lb xs ys w hla hlb hx hy hlx (by rw [← he]; exact hlx)
  rw [decide_eq_true he] at h
  exact h
end
end Go.Proofs.YtgogpngobdafaaaDoor
