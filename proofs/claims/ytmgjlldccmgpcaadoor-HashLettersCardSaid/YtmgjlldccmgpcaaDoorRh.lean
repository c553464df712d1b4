/-
  Bytes as digits, as the plain answers write them.
-/
import Derived.Test.YtmgjlldccmgpcaaDoorDg
import Derived.WalkSpells
import Derived.Lib.SmallJoins
namespace Go.Proofs.YtmgjlldccmgpcaaDoor
set_option linter.unusedVariables false
set_option linter.unusedSimpArgs false
open Go.RowKit

theorem letter_slice (u : World) (d : Nat) (hd : d < 16) : (Instr.sliceAt 9 (.string ⟨#[48, 49, 50, 51, 52, 53, 54, 55, 56, 57, 97, 98, 99, 100, 101, 102]⟩) (some (.int .u8 (d : Nat))) (some (.int .u8 ((d : Int) + 1))) none).run Tryd.prog u = .ok (.string ⟨#[ltr hexL d]⟩) u := by
  have b1 : (Instr.sliceBound (.int .u8 ((d : Int) + 1)) 16 .sliceAlen).run Tryd.prog u = .ok (d + 1) u := by simp [Instr.sliceBound, asIntOf]; omega
  have b2 : (Instr.sliceBound (.int .u8 ((d : Nat) : Int)) (d + 1) .sliceB).run Tryd.prog u = .ok d u := by simp [Instr.sliceBound, asIntOf]; intro h; omega
  have hx : ∀ i : Fin 16, (⟨#[48, 49, 50, 51, 52, 53, 54, 55, 56, 57, 97, 98, 99, 100, 101, 102]⟩ : ByteArray).extract i.val (i.val + 1) = ⟨#[ltr hexL i.val]⟩ := by decide +kernel
  have hz : (⟨#[48, 49, 50, 51, 52, 53, 54, 55, 56, 57, 97, 98, 99, 100, 101, 102]⟩ : ByteArray).size = 16 := rfl
  have hxd := hx ⟨d, hd⟩
  simp only at hxd
  simp only [Instr.sliceAt, Instr.slice, Instr.sliceBounds, Sem.run_bind, run_underlying Tryd.underlying9, Result.andThen_ok, hz, Sem.run_pure, b1, b2, Option.isSome_none, hxd, Bool.false_eq_true, if_false]
theorem bytes_app (a b : List UInt8) : (⟨a.toArray⟩ : ByteArray) ++ ⟨b.toArray⟩ = ⟨(a ++ b).toArray⟩ := by
  apply ByteArray.ext
  rw [ByteArray.data_append]
  simp
theorem two_letters (u : World) (p q : UInt8) : (Op.stringOp .add ⟨#[p]⟩ ⟨#[q]⟩).run Tryd.prog u = .ok (.string ⟨#[p, q]⟩) u := by
  have h := run_string_add_sum (P := Tryd.prog) u (⟨[p].toArray⟩ : ByteArray) ⟨[q].toArray⟩ (show [p].length + [q].length ≤ 9223372036854775807 from by simp)
  rw [bytes_app] at h
  exact h
theorem more_letters (u : World) (acc : List UInt8) (p q : UInt8) (h : acc.length ≤ 4000000) : (Op.stringOp .add ⟨acc.toArray⟩ ⟨#[p, q]⟩).run Tryd.prog u = .ok (.string ⟨(acc ++ [p, q]).toArray⟩) u := by
  have h := run_string_add_sum (P := Tryd.prog) u (⟨acc.toArray⟩ : ByteArray) ⟨[p, q].toArray⟩ (show acc.length + [p, q].length ≤ 9223372036854775807 from by simp; omega)
  rw [bytes_app] at h
  exact h

section
set_option maxHeartbeats 1600000
set_option maxRecDepth 100000
theorem rhex_any (w : World) (A : Option Addr) (ca n : Nat) (xs : List UInt8) (hn : xs.length = n) (hx : Rd w A (xs.map Bv)) (hl : n ≤ 1000000) :
    Calls Tryd.prog 33 #[.slice A n ca] w fun e w' => e = .returned (.string ⟨(xs.flatMap hexB).toArray⟩) ∧ ∃ m, w' = w.drewN m := by
  have HN := Lib.hid hn; clear hn
  go_enter Tryd.func33, Tryd.ntmps33
  go_wp2
  go_loopw [3, 8] (fun v i wr => ∃ k m : Nat, k ≤ n ∧ i = .int .i64 k ∧ v = .string ⟨((xs.take k).flatMap hexB).toArray⟩ ∧ wr = w.drewN m) (fun _ i _ => n - (intOf i).toNat)
  case atStart => exact ⟨0, 0, by omega, rfl, rfl, rfl⟩
  case round =>
    obtain ⟨k, m, hk, rfl, rfl, rfl⟩ := hrel
    by_cases hlt : k < n
    · have hkx : k < xs.length := by rw [HN.out]; exact hlt
      obtain ⟨b, off, rfl, hc⟩ := hx.byte hkx
      have hx8 := xs[k].toNat_lt
      obtain ⟨a, ha⟩ : ∃ a, a = xs[k].toNat / 16 := ⟨_, rfl⟩
      obtain ⟨b2, hb2⟩ : ∃ b, b = xs[k].toNat % 16 := ⟨_, rfl⟩
      have ha16 : a < 16 := by omega
      have hb16 : b2 < 16 := by omega
      have q1 : (xs[k].toNat : Int).tdiv 16 = (a : Int) := by rw [Int.tdiv_eq_ediv_of_nonneg (by omega)]; omega
      have q2 : (xs[k].toNat : Int).tmod 16 = (b2 : Int) := by rw [Int.tmod_eq_emod_of_nonneg (by omega)]; omega
      have q3 : (xs[k].toNat : Int) / 16 = (a : Int) := by omega
      have q4 : (xs[k].toNat : Int) % 16 = (b2 : Int) := by omega
      have w1 : IntKind.u8.wrap (a : Int) = (a : Int) := by rw [IntKind.wrap_u8]; omega
      have w2 : IntKind.u8.wrap (b2 : Int) = (b2 : Int) := by rw [IntKind.wrap_u8]; omega
      have w3 : IntKind.u8.wrap ((a : Int) + 1) = (a : Int) + 1 := by rw [IntKind.wrap_u8]; omega
      have w4 : IntKind.u8.wrap ((b2 : Int) + 1) = (b2 : Int) + 1 := by rw [IntKind.wrap_u8]; omega
      have hst : (xs.take (k + 1)).flatMap hexB = (xs.take k).flatMap hexB ++ [ltr hexL a, ltr hexL b2] := by
        rw [List.take_succ_eq_append_getElem hkx, List.flatMap_append, List.flatMap_singleton, ha, hb2]; rfl
      have hal : ((xs.take k).flatMap hexB).length ≤ 4000000 := by
        have e : ((xs.take k).flatMap hexB).length = 2 * (xs.take k).length := by
          induction xs.take k with
          | nil => rfl
          | cons y r ih => rw [List.flatMap_cons, List.length_append, ih]; simp [hexB]; omega
        rw [e, List.length_take]; omega
      have HA := Lib.hid ha; clear ha
      have HB := Lib.hid hb2; clear hb2
      have HST := Lib.hid hst; clear hst
      generalize (xs.take k).flatMap hexB = acc at *
      have s1 := fun u => letter_slice u a ha16
      have s2 := fun u => letter_slice u b2 hb16
      have s3 := fun u => two_letters u (ltr hexL a) (ltr hexL b2)
      have s4 := fun u => more_letters u acc (ltr hexL a) (ltr hexL b2) hal
      go_wp2
      go_quiet (fail)
      go_wp2
      go_roundw
      case rel => exact ⟨k + 1, _, by omega, by go_num, by rw [HST.out], rfl⟩
      case measure => simp [intOf]; omega
    · have hkn : xs.take k = xs := List.take_of_length_le (by rw [HN.out]; omega)
      rw [hkn]
      clear hkn
      go_wp2
      go_ret
      exact ⟨rfl, _, rfl⟩
end
end Go.Proofs.YtmgjlldccmgpcaaDoor
