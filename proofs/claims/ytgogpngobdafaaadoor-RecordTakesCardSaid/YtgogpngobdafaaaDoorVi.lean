
/-
  Numbers in few bytes, read by the plain answers; numbers with a sign.
-/
import Derived.Test.YtgogpngobdafaaaDoorRuvC
import Derived.Test.YtgogpngobdafaaaDoorPub
import Derived.Test.YtgogpngobdafaaaDoorZg
namespace Go.Proofs.YtgogpngobdafaaaDoor
set_option linter.unusedVariables false
set_option linter.unusedSimpArgs false
open Go.RowKit

section
set_option maxHeartbeats 1600000
set_option maxRecDepth 100000
/-- What a reader of numbers with a sign answers. -/
def viT (r : Nat × Nat × Nat) : Value := .tuple #[.int .i64 (if r.2.2 = 0 then zagN r.1 else 0), .int .i64 (r.2.1 : Int), .int .i64 (r.2.2 : Int)]
theorem viT_ok (n k : Nat) : viT (n, k, 0) = .tuple #[.int .i64 (zagN n), .int .i64 (k : Int), .int .i64 0] := rfl
theorem varint_any (A : Option Addr) (ca : Nat) (xs : List UInt8) (w : World) (hx : Rd w A (xs.map Bv)) (hlx : xs.length ≤ 9223372036854775807) :
    Calls Tryd.prog 107 #[.slice A xs.length ca] w fun e w' => e = .returned (viT (uvS 0 0 xs)) ∧ w = w' := by
  have hlt := uvS_lt (k := 0) (n := 0) (l := xs) (by omega) (by decide)
  have herr := uvS_err (k := 0) (n := 0) (l := xs)
  generalize hr : uvS 0 0 xs = r at *
  obtain ⟨n, k, c⟩ := r
  have HR := Lib.hid hr; clear hr
  have HE := Lib.hid herr; clear herr
  simp only at hlt
  go_enter Tryd.func107, Tryd.ntmps107
  go_wp2_with fail
  refine (uvarint_any A ca xs w hx hlx).mono ?_
  rintro e w' ⟨rfl, rfl⟩
  rw [HR.out]
  simp only [uvT]
  go_wp2_with fail
  refine (zag_any n _ hlt).mono ?_
  rintro e w' ⟨rfl, rfl⟩
  go_wp2
  go_ret3
  refine ⟨?_, rfl⟩
  by_cases hc : c = 0
  · subst hc; rfl
  · have := HE.out hc
    obtain ⟨rfl, rfl⟩ := this
    simp only [viT, if_neg hc]
    rfl
theorem rvarint_any (A : Option Addr) (ca : Nat) (xs : List UInt8) (w : World) (hx : Rd w A (xs.map Bv)) (hlx : xs.length ≤ 9223372036854775807) :
    Calls Tryd.prog 88 #[.slice A xs.length ca] w fun e w' => e = .returned (viT (uvS 0 0 xs)) ∧ w = w' := by
  have hlt := uvS_lt (k := 0) (n := 0) (l := xs) (by omega) (by decide)
  have herr := uvS_err (k := 0) (n := 0) (l := xs)
  generalize hr : uvS 0 0 xs = r at *
  obtain ⟨n, k, c⟩ := r
  have HR := Lib.hid hr; clear hr
  have HE := Lib.hid herr; clear herr
  simp only at hlt
  by_cases hc : c = 0
  · have hc' : ((c : Int) != 0) = false := by simp [hc]
    have HC := Lib.hid hc; clear hc
    go_enter Tryd.func88, Tryd.ntmps88
    go_wp2_with fail
    refine (ruvarint_any A ca xs w hx hlx).mono ?_
    rintro e w' ⟨rfl, rfl⟩
    rw [HR.out]
    simp only [uvT]
    go_wp2_with fail
    refine (rzag_any n _ hlt).mono ?_
    rintro e w' ⟨rfl, rfl⟩
    go_wp2
    go_ret3
    refine ⟨?_, rfl⟩
    have := HC.out
    subst this
    rfl
  · have hc' : ((c : Int) != 0) = true := by rw [bne_iff_ne]; omega
    have HC := Lib.hid hc; clear hc
    go_enter Tryd.func88, Tryd.ntmps88
    go_wp2_with fail
    refine (ruvarint_any A ca xs w hx hlx).mono ?_
    rintro e w' ⟨rfl, rfl⟩
    rw [HR.out]
    simp only [uvT]
    go_wp2
    go_ret3
    refine ⟨?_, rfl⟩
    have := HE.out HC.out
    obtain ⟨rfl, rfl⟩ := this
    simp only [viT, if_neg HC.out]
    rfl

theorem pv_any (s : Int) (w : World) (h : -9223372036854775808 ≤ s) (h1 : s < 9223372036854775808) :
    Calls Tryd.prog 71 #[.int .i64 s] w fun e w' => ∃ v, e = .returned v ∧ w'.ownsRow w.heap.size 5 1 v (pu (zigN s)).length ((pu (zigN s)).map Bv) ∧ Below w.heap.size w w' := by
  go_enter Tryd.func71, Tryd.ntmps71
  go_wp2_with fail
  refine (zig_any s w h h1).mono ?_
  rintro e w' ⟨rfl, rfl⟩
  go_wp2_with fail
  refine (pu_any (zigN s) w (zigN_lt s h h1)).mono ?_
  rintro e w' ⟨v, rfl, hown, hb⟩
  go_wp2
  go_ret
  exact ⟨_, rfl, hown, hb⟩
theorem rpv_any (s : Int) (w : World) (h : -9223372036854775808 ≤ s) (h1 : s < 9223372036854775808) :
    Calls Tryd.prog 44 #[.int .i64 s] w fun e w' => ∃ v, e = .returned v ∧ w'.ownsRow w.heap.size 5 1 v (pu (zigN s)).length ((pu (zigN s)).map Bv) ∧ Below w.heap.size w w' := by
  go_enter Tryd.func44, Tryd.ntmps44
  go_wp2_with fail
  refine (rzig_any s w h h1).mono ?_
  rintro e w' ⟨rfl, rfl⟩
  go_wp2_with fail
  refine (rpu_any (zigN s) w (zigN_lt s h h1)).mono ?_
  rintro e w' ⟨v, rfl, hown, hb⟩
  go_wp2
  go_ret
  exact ⟨_, rfl, hown, hb⟩
end
end Go.Proofs.YtgogpngobdafaaaDoor
