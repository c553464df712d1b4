/-
  BitsNone: a Writer and a Reader that no call made answer ErrMade, and nothing else. No condition.
-/
import Derived.Test.YtogakabfidahbaaLive
namespace Go.Proofs.Ytogakabfidahbaa
set_option linter.unusedVariables false
set_option linter.unusedSimpArgs false
open Go.RowKit

section
set_option maxHeartbeats 1600000
set_option maxRecDepth 100000

theorem clone_nil0 (w : World) : Calls Try.prog 12 #[.pointer none] w fun e w' => e = .returned (.pointer none) ∧ w = w' := by
  go_enter Try.func12, Try.ntmps12
  go_wp2
  go_ret
  exact ⟨rfl, rfl⟩
theorem clone_zero (w : World) (p : Nat) (hp0 : w.cell? ⟨p, 0, none⟩ = some (.bool false)) : Calls Try.prog 12 #[.pointer (some ⟨p, 0, none⟩)] w fun e w' => e = .returned (.pointer none) ∧ w = w' := by
  go_enter Try.func12, Try.ntmps12
  go_wp2
  go_ret
  exact ⟨rfl, rfl⟩
theorem rclone_nil0 (w : World) : Calls Try.prog 23 #[.pointer none] w fun e w' => e = .returned (.pointer none) ∧ w = w' := by
  go_enter Try.func23, Try.ntmps23
  go_wp2
  go_ret
  exact ⟨rfl, rfl⟩
theorem rclone_zero (w : World) (p : Nat) (hp0 : w.cell? ⟨p, 0, none⟩ = some (.bool false)) : Calls Try.prog 23 #[.pointer (some ⟨p, 0, none⟩)] w fun e w' => e = .returned (.pointer none) ∧ w = w' := by
  go_enter Try.func23, Try.ntmps23
  go_wp2
  go_ret
  exact ⟨rfl, rfl⟩
theorem get_nil0 (wd : Int) (w : World) : Calls Try.prog 24 #[.pointer none, .int .i64 wd] w fun e w' => e = .returned (.tuple #[.int .u64 0, .int .i64 2]) ∧ w = w' := by
  go_enter Try.func24, Try.ntmps24
  go_wp2
  go_ret2
  exact ⟨rfl, rfl⟩
theorem get_zero (wd : Int) (w : World) (p : Nat) (hp0 : w.cell? ⟨p, 0, none⟩ = some (.bool false)) : Calls Try.prog 24 #[.pointer (some ⟨p, 0, none⟩), .int .i64 wd] w fun e w' => e = .returned (.tuple #[.int .u64 0, .int .i64 2]) ∧ w = w' := by
  go_enter Try.func24, Try.ntmps24
  go_wp2
  go_ret2
  exact ⟨rfl, rfl⟩
theorem left_nil0 (w : World) : Calls Try.prog 26 #[.pointer none] w fun e w' => e = .returned (.int .i64 0) ∧ w = w' := by
  go_enter Try.func26, Try.ntmps26
  go_wp2
  go_ret
  exact ⟨rfl, rfl⟩
theorem left_cells (w : World) (p : Nat) (a s : Int) (h2 : w.cell? ⟨p, 2, none⟩ = some (.int .i64 a)) (h3 : w.cell? ⟨p, 3, none⟩ = some (.int .i64 s)) (hr : 0 ≤ a ∧ a ≤ s ∧ s ≤ 9223372036854775807) :
    Calls Try.prog 26 #[.pointer (some ⟨p, 0, none⟩)] w fun e w' => e = .returned (.int .i64 (s - a)) ∧ ∃ n, w' = w.drewN n := by
  obtain ⟨r1, r2, r3⟩ := hr
  go_enter Try.func26, Try.ntmps26
  go_wp2
  go_quiet (fail)
  go_wp2
  go_ret
  exact ⟨rfl, _, rfl⟩

theorem none_walk (n : Nat) (wd : Int) (w : World) (hn : n < 18446744073709551616) (h0 : -9223372036854775808 ≤ wd) (h1 : wd < 9223372036854775808) :
    Calls Try.prog 8 #[.int .u64 n, .int .i64 wd] w fun e w' => e = .returned (.bool true) ∧ Below w.heap.size w w' := by
  go_enter Try.func8, Try.ntmps8
  go_wp2
  obtain ⟨W, hW⟩ : ∃ W, W = (w.alloc (.cells #[.bool false, .slice none 0 0, .int .i64 0] 61)).alloc (.cells #[.pointer none, .pointer (some ⟨w.heap.size, 0, none⟩)] 24) := ⟨_, rfl⟩
  have kz : W.heap[w.heap.size]? = some (.cells #[.bool false, .slice none 0 0, .int .i64 0] 61 (0, 0)) := by
    rw [hW, Below.heap_alloc _ _ _ (by simp)]; exact heap_alloc_new _ _
  have ks : W.heap[w.heap.size + 1]? = some (.cells #[.pointer none, .pointer (some ⟨w.heap.size, 0, none⟩)] 24 (0, 0)) := by
    rw [hW]; exact heap_alloc_new2 _ _ _
  have hb : Below w.heap.size w W := by rw [hW]; exact ((Below.refl _ _).alloc (Nat.le_refl _) _).alloc (by simp) _
  rw [← hW]
  clear hW
  go_loopw [15] (fun i wr => ∃ k : Nat, k ≤ 2 ∧ i = .int .i64 k ∧ Below W.heap.size W wr) (fun i _ => 2 - (intOf i).toNat)
  case atStart => exact ⟨0, by omega, rfl, Below.refl _ _⟩
  case round =>
    obtain ⟨k, hk, rfl, hbr⟩ := hrel
    have kz' := (hbr.block _ (blk_lt kz)).trans kz
    have ks' := (hbr.block _ (blk_lt ks)).trans ks
    have s0 := cell_blk ks' 0
    have s1 := cell_blk ks' 1
    simp at s0 s1
    have KZ := Lib.hid kz'; clear kz'
    have KS := Lib.hid ks'; clear ks'
    obtain rfl | rfl | rfl : k = 0 ∨ k = 1 ∨ k = 2 := by omega
    · go_wp2_with fail
      refine (put_nil _ n wd).mono ?_
      rintro e w1 ⟨rfl, hm⟩
      go_wp2_with (first | (go_at_call 16; refine (len_nil _).mono ?_; rintro e w' ⟨rfl, rfl⟩) | (go_at_call 18; refine (bytes_nil _).mono ?_; rintro e w' ⟨rfl, rfl⟩) | (go_at_call 12; refine (clone_nil0 _).mono ?_; rintro e w' ⟨rfl, rfl⟩))
      go_roundw
      case rel => exact ⟨1, by omega, by go_num, hbr.trans (hm.below.mono hbr.size)⟩
      case measure => simp [intOf]
    · have z0 := cell_blk KZ.out 0
      simp at z0
      go_wp2_with fail
      refine (put_unmade _ _ n wd z0 (blk_lt KZ.out)).mono ?_
      rintro e w1 ⟨rfl, hm⟩
      have kz1 := (hm.below.block _ (blk_lt KZ.out)).trans KZ.out
      have z0 := cell_blk kz1 0
      have z1 := cell_blk kz1 1
      have z2 := cell_blk kz1 2
      simp at z0 z1 z2
      have KZ1 := Lib.hid kz1; clear kz1
      go_wp2_with (first | (go_at_call 16; refine (len_cell _ _ 0 z2).mono ?_; rintro e w' ⟨rfl, rfl⟩) | (go_at_call 18; refine (bytes_unmade _ _ z1).mono ?_; rintro e w' ⟨rfl, rfl⟩) | (go_at_call 12; refine (clone_zero _ _ z0).mono ?_; rintro e w' ⟨rfl, rfl⟩))
      go_roundw
      case rel => exact ⟨2, by omega, by go_num, hbr.trans (hm.below.mono hbr.size)⟩
      case measure => simp [intOf]
    · have hbw := hb.trans (hbr.mono hb.size)
      clear s0 s1 KZ KS kz ks
      rw [show ((2 : Nat) : Int) = (2 : Int) from rfl]
      go_wp2
      obtain ⟨V, hV⟩ : ∃ V, V = (wr.alloc (.cells #[.bool false, .slice none 0 0, .int .i64 0, .int .i64 0] 64)).alloc (.cells #[.pointer none, .pointer (some ⟨wr.heap.size, 0, none⟩)] 43) := ⟨_, rfl⟩
      have kz : V.heap[wr.heap.size]? = some (.cells #[.bool false, .slice none 0 0, .int .i64 0, .int .i64 0] 64 (0, 0)) := by
        rw [hV, Below.heap_alloc _ _ _ (by simp)]; exact heap_alloc_new _ _
      have ks : V.heap[wr.heap.size + 1]? = some (.cells #[.pointer none, .pointer (some ⟨wr.heap.size, 0, none⟩)] 43 (0, 0)) := by
        rw [hV]; exact heap_alloc_new2 _ _ _
      have hbv : Below w.heap.size w V := by rw [hV]; exact (hbw.alloc hbw.size _).alloc (by simp; have := hbw.size; omega) _
      rw [← hV]
      clear hV
      go_loopw [45] (fun i wr => ∃ k n : Nat, k ≤ 2 ∧ i = .int .i64 k ∧ wr = V.drewN n) (fun i _ => 2 - (intOf i).toNat)
      case atStart => exact ⟨0, 0, by omega, rfl, rfl⟩
      case round =>
        obtain ⟨k, m, hk, rfl, rfl⟩ := hrel
        have s0 := cell_blk ks 0
        have s1 := cell_blk ks 1
        have z0 := cell_blk kz 0
        have z2 := cell_blk kz 2
        have z3 := cell_blk kz 3
        simp at s0 s1 z0 z2 z3
        have KZ := Lib.hid kz; clear kz
        have KS := Lib.hid ks; clear ks
        obtain rfl | rfl | rfl : k = 0 ∨ k = 1 ∨ k = 2 := by omega
        · go_wp2_with (first | (go_at_call 24; refine (get_nil0 _ _).mono ?_; rintro e w' ⟨rfl, rfl⟩) | (go_at_call 26; refine (left_nil0 _).mono ?_; rintro e w' ⟨rfl, rfl⟩) | (go_at_call 23; refine (rclone_nil0 _).mono ?_; rintro e w' ⟨rfl, rfl⟩))
          go_roundw
          case rel => exact ⟨1, m, by omega, by go_num, rfl⟩
          case measure => simp [intOf]
        · go_wp2_with (first | (go_at_call 24; go_must (refine (get_zero _ _ _ (by exact z0)).mono ?_; rintro e w' ⟨rfl, rfl⟩)) | (go_at_call 26; go_must (refine (left_cells _ _ 0 0 (by exact z2) (by exact z3) (by omega)).mono ?_; rintro e w' ⟨rfl, m', rfl⟩)) | (go_at_call 23; go_must (refine (rclone_zero _ _ (by exact z0)).mono ?_; rintro e w' ⟨rfl, rfl⟩)))
          go_roundw
          case rel => exact ⟨2, _, by omega, by go_num, rfl⟩
          case measure => simp [intOf]
        · go_wp2_with fail
          refine (live_any _).mono ?_
          rintro e w' ⟨rfl, hbl⟩
          go_wp2
          go_ret
          refine ⟨rfl, hbv.trans ?_⟩
          exact Below.mono (B := (V.drewN m).heap.size) ⟨hbl.os, hbl.tape, hbl.output, hbl.size, hbl.block⟩ hbv.size
end
end Go.Proofs.Ytogakabfidahbaa
