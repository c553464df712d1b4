/-
  Numbers in few bytes, written by the plain answers.
-/
import Derived.Test.YtgogpngobdafaaaDoorPua
namespace Go.Proofs.YtgogpngobdafaaaDoor
set_option linter.unusedVariables false
set_option linter.unusedSimpArgs false
open Go.RowKit
section
set_option maxHeartbeats 1600000
set_option maxRecDepth 100000
theorem rpu_any (n : Nat) (w : World) (hn : n < 18446744073709551616) :
    Calls Tryd.prog 43 #[.int .u64 n] w fun e w' => ∃ v, e = .returned v ∧ w'.ownsRow w.heap.size 5 1 v (pu n).length ((pu n).map Bv) ∧ Below w.heap.size w w' := by
  obtain ⟨i0, hi, hz0, hz1, hz2⟩ := info_parts infoU8
  have hl10 := pu_len 10 n (by omega)
  go_enter Tryd.func43, Tryd.ntmps43
  go_wp2
  go_loopw [0, 3] (fun i v wr => ∃ (m : Nat) (acc : List UInt8), m < 18446744073709551616 ∧ i = .int .u64 m ∧ pu n = acc ++ pu m ∧ acc.length + (pu m).length ≤ 10 ∧ wr.ownsRow w.heap.size 5 1 v acc.length (acc.map Bv) ∧ Below w.heap.size w wr) (fun i _ _ => (intOf i).toNat)
  case atStart => exact ⟨n, [], hn, rfl, rfl, by simpa using hl10, own_empty w _, (Below.refl _ _).alloc (Nat.le_refl _) _⟩
  case round =>
    obtain ⟨m, acc, hm, rfl, hpu, hlen, hown, hb⟩ := hrel
    have HS := Lib.hid hb.size
    have hlo := fun (k : Nat) h => (hown.lt k h).1
    by_cases h : m < 128
    · rw [pu_last h] at hpu hlen
      simp at hlen
      have HP := Lib.hid hpu; clear hpu
      go_wp2_with (first | (at_builtin; go_must (refine wpList_append_own _ rfl _ _ 30 rfl w.heap.size 5 i0 (.int .u8 0) 1 1 Tryd.underlying30 hi hz0 hz1 hz2 rfl (by decide) _ acc.length (acc.map Bv) rfl (hown.alloc _) ⟨wr.heap.size, 0, none⟩ 1 1 [.int .u8 m] rfl rfl (World.news_of_block (heap_alloc_new _ _)) (by simp [Value.oneCell']) (by unfold maxLen; omega) (by omega) (by have := HS.out; simp; omega) ?_; intro v' w1 hown' hgrow _)) | fail)
      go_wp2
      go_ret
      refine ⟨_, rfl, ?_, (hb.alloc HS.out _).grown hgrow (by have := HS.out; simp; omega) hlo⟩
      rw [HP.out]
      exact snoc_own hown' rfl (by omega)
    · have hd : (pu m).length = (pu (m / 128)).length + 1 := by rw [pu_more (n := m) (by omega)]; rfl
      rw [pu_more (n := m) (by omega)] at hpu
      have HP := Lib.hid hpu; clear hpu
      have HD := Lib.hid hd; clear hd
      go_wp2_with (first | (at_builtin; go_must (refine wpList_append_own _ rfl _ _ 30 rfl w.heap.size 5 i0 (.int .u8 0) 1 1 Tryd.underlying30 hi hz0 hz1 hz2 rfl (by decide) _ acc.length (acc.map Bv) rfl (hown.alloc _) ⟨wr.heap.size, 0, none⟩ 1 1 [.int .u8 ((m : Int) % 128 + 128)] rfl rfl (World.news_of_block (heap_alloc_new _ _)) (by simp [Value.oneCell']) (by unfold maxLen; omega) (by omega) (by have := HS.out; simp; omega) ?_; intro v' w1 hown' hgrow _)) | fail)
      go_wp2
      go_roundw
      case rel => exact ⟨m / 128, acc ++ [UInt8.ofNat (m % 128 + 128)], by omega, by go_num, by rw [HP.out]; simp, by have := HD.out; simp; omega, snoc_own hown' (by omega) (by omega), (hb.alloc HS.out _).grown hgrow (by have := HS.out; simp; omega) hlo⟩
      case measure => simp [intOf]; omega

end
end Go.Proofs.YtgogpngobdafaaaDoor
