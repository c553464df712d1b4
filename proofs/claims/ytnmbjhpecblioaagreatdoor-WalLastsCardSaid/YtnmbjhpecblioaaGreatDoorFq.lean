/-
  The frame of bytes, as the plain answers make it; of too many.
-/
import Derived.Test.YtnmbjhpecblioaaGreatDoorFp
namespace Go.Proofs.YtnmbjhpecblioaaGreatDoor
set_option linter.unusedVariables false
set_option linter.unusedSimpArgs false
open Go.RowKit

section
set_option maxHeartbeats 1600000
set_option maxRecDepth 100000
theorem fput_long (A : Option Addr) (ca n : Nat) (w : World) (hl : 1048576 < n) (hn : n ≤ 9223372036854775807) :
    Calls Tryz.prog 67 #[.slice A n ca] w fun e w' => e = .returned (.tuple #[.slice none 0 0, .int .i64 3]) ∧ w = w' := by
  have h : decide (1048576 < (n : Int)) = true := by simp; omega
  go_enter Tryz.func67, Tryz.ntmps67
  go_wp2
  go_ret2
  exact ⟨rfl, rfl⟩
theorem rput_long (A : Option Addr) (ca n : Nat) (w : World) (hl : 1048576 < n) (hn : n ≤ 9223372036854775807) :
    Calls Tryz.prog 54 #[.slice A n ca] w fun e w' => e = .returned (.tuple #[.slice none 0 0, .int .i64 3]) ∧ w = w' := by
  have h : decide (1048576 < (n : Int)) = true := by simp; omega
  go_enter Tryz.func54, Tryz.ntmps54
  go_wp2
  go_ret2
  exact ⟨rfl, rfl⟩
theorem low_any (m : Nat) (w : World) (hm : m < 4294967296) : Calls Tryz.prog 86 #[.int .u32 m] w fun e w' => ∃ A c, e = .returned (.slice A (low4 m).length c) ∧ Rd w' A ((low4 m).map Bv) ∧ Below w.heap.size w w' := by
  go_enter Tryz.func86, Tryz.ntmps86
  go_wp2
  go_ret
  refine ⟨_, _, rfl, ?_, (Below.refl _ _).alloc (Nat.le_refl _) _⟩
  rw [← low_vals hm]
  exact rd_row w [.int .u8 ((m : Int) % 256), .int .u8 ((m : Int) / 256 % 256), .int .u8 ((m : Int) / 65536 % 256), .int .u8 ((m : Int) / 16777216)] _
theorem frput_any (A : Option Addr) (ca : Nat) (xs : List UInt8) (w : World) (hx : Rd w A (xs.map Bv)) (hl : xs.length ≤ 1048576) :
    Calls Tryz.prog 54 #[.slice A xs.length ca] w fun e w' => ∃ C c, e = .returned (.tuple #[.slice C (frameF xs).length c, .int .i64 0]) ∧ Rd w' C ((frameF xs).map Bv) ∧ Below w.heap.size w w' := by
  have hl10 := pu_len 10 xs.length (by omega)
  go_enter Tryz.func54, Tryz.ntmps54
  go_wp2_with fail
  refine (rpu_any xs.length w (by omega)).mono ?_
  rintro e w1 ⟨v1, rfl, own1, hb1⟩
  obtain ⟨A1, c1, rfl, rd1, _⟩ := own_rd own1
  have hx1 := hx.below hb1
  clear own1 hx
  obtain ⟨ps, hps⟩ : ∃ ps, ps = pu xs.length := ⟨_, rfl⟩
  rw [← hps] at hl10 rd1
  have HPS := Lib.hid hps
  rw [← hps]
  clear hps
  go_wp2_with fail
  refine (join_two w1 A1 A c1 ca ps xs rd1 hx1 (by omega)).mono ?_
  rintro e w2 ⟨A2, c2, rfl, rd2, hb2⟩
  obtain ⟨hd, hhd⟩ : ∃ hd, hd = ps ++ xs := ⟨_, rfl⟩
  have hhl : hd.length = ps.length + xs.length := by rw [hhd, List.length_append]
  rw [← hhd] at rd2 ⊢
  have HHL := Lib.hid hhl; clear hhl
  have HHD := Lib.hid hhd; clear hhd
  have hb2 := hb1.trans (hb2.mono hb1.size)
  clear rd1 hx1 hb1
  go_wp2_with fail
  refine (rsum_any A2 c2 hd w2 rd2 (by have := HHL.out; omega)).mono ?_
  rintro e w3 ⟨rfl, rfl⟩
  have hcl := crc_lt (s := 0) (by decide) hd
  go_wp2_with fail
  refine (rmask_any _ _ hcl).mono ?_
  rintro e w3 ⟨rfl, rfl⟩
  have hml := maskN_lt (crc 0 hd)
  obtain ⟨m, hm⟩ : ∃ m, m = maskN (crc 0 hd) := ⟨_, rfl⟩
  rw [← hm] at hml ⊢
  have HM := Lib.hid hm; clear hm hcl
  go_wp2_with fail
  refine (low_any m _ hml).mono ?_
  rintro e w3 ⟨A3, c3, rfl, rd3, hb3⟩
  have rd2 := rd2.below hb3
  have hb3 := hb2.trans (hb3.mono hb2.size)
  have HLL := Lib.hid (low4_length m)
  go_wp2_with fail
  refine (join_two w3 A2 A3 c2 c3 hd (low4 m) rd2 rd3 (by have := HHL.out; have := HLL.out; omega)).mono ?_
  rintro e w4 ⟨A4, c4, rfl, rd4, hb4⟩
  have e : frameF xs = hd ++ low4 m := by rw [HM.out, HHD.out, HPS.out]; rfl
  rw [← e] at rd4 ⊢
  have E := Lib.hid e; clear e
  go_wp2
  go_ret2
  exact ⟨_, _, rfl, rd4, hb3.trans (hb4.mono hb3.size)⟩
end
end Go.Proofs.YtnmbjhpecblioaaGreatDoor
