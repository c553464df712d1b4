/-
  The frame of bytes, as the package makes it.
-/
import Derived.Test.YtnmbjhpecblioaaGreatDoorFs
namespace Go.Proofs.YtnmbjhpecblioaaGreatDoor
set_option linter.unusedVariables false
set_option linter.unusedSimpArgs false
open Go.RowKit

/-- Behind an append onto a row that is newer than w1, what lay below w1 is as it was. -/
theorem grown_new {w1 w2 w3 : World} {v : Value} {k : Nat} {ys : List Value} {e : TypeId} (hb : Below w1.heap.size w1 w2) (hown : w2.ownsRow w1.heap.size e 1 v k ys) (hg : w2.grownBy w3 v.ownBlock) : Below w1.heap.size w1 w3 :=
  hb.grown hg hb.size (fun k h => (hown.lt k h).1)

theorem low_vals {m : Nat} (h : m < 4294967296) : [Value.int .u8 ((m : Int) % 256), .int .u8 ((m : Int) / 256 % 256), .int .u8 ((m : Int) / 65536 % 256), .int .u8 ((m : Int) / 16777216)] = (low4 m).map Bv := by
  simp only [low4, List.map_cons, List.map_nil, Bv, UInt8.toNat_ofNat']
  have e3 : m / 16777216 % 2 ^ 8 = m / 16777216 := Nat.mod_eq_of_lt (by omega)
  rw [e3]
  rfl
section
set_option maxHeartbeats 1600000
set_option maxRecDepth 100000
theorem fput_any (A : Option Addr) (ca : Nat) (xs : List UInt8) (w : World) (ht : StepsMet w) (hx : Rd w A (xs.map Bv)) (hl : xs.length ≤ 1048576) :
    Calls Tryz.prog 67 #[.slice A xs.length ca] w fun e w' => ∃ v, e = .returned (.tuple #[v, .int .i64 0]) ∧ w'.ownsRow w.heap.size 5 1 v (frameF xs).length ((frameF xs).map Bv) ∧ Below w.heap.size w w' := by
  obtain ⟨i0, hi, hz0, hz1, hz2⟩ := info_parts infoU8
  have hl10 := pu_len 10 xs.length (by omega)
  have HT := Lib.hid ht; clear ht
  go_enter Tryz.func67, Tryz.ntmps67
  go_wp2_with fail
  refine (pu_any xs.length w (by omega)).mono ?_
  rintro e w1 ⟨v1, rfl, own1, hb1⟩
  obtain ⟨A1, c1, rfl, rd1, _⟩ := own_rd own1
  have hx1 := hx.below hb1
  clear own1 hx
  obtain ⟨ps, hps⟩ : ∃ ps, ps = pu xs.length := ⟨_, rfl⟩
  rw [← hps] at hl10 rd1
  have HPS := Lib.hid hps
  have hone : ∀ (l : List UInt8), ∀ u ∈ l.map Bv, u.oneCell' = true := by intro l u hu; obtain ⟨x, _, rfl⟩ := List.mem_map.1 hu; rfl
  have H1 := Lib.hid hone; clear hone
  have hbs := hb1.size
  rw [← hps]
  clear hps
  go_wp2_with (first
    | (at_make; go_must (refine wpList_make_own _ rfl _ _ 29 rfl w1.heap.size 5 i0 (.int .u8 0) 1 Tryz.underlying29 hi hz0 hz1 .i64 .i64 _ (ps.length + xs.length + 4) rfl rfl (by omega) (by rw [hz2]; omega) (by unfold maxLen; omega) (Nat.le_refl _) ?_; intro w2 own2 grow2; have hb2 := (Below.refl _ w1).grown grow2 (Nat.le_refl _) (fun _ e => by cases e); clear grow2))
    | (at_builtin; (refine wpList_append_rd rfl _ _ 29 rfl w1.heap.size 5 i0 (.int .u8 0) 1 Tryz.underlying29 hi hz0 hz1 hz2 rfl _ 0 [] rfl own2 A1 c1 (ps.map Bv) (by simp; rfl) (rd1.below hb2) (H1.out ps) (by rw [List.length_map]; unfold maxLen; omega) (by rw [List.length_map]; omega) hb2.size ?_; intro v3 w3 own3 grow3; have hb3 := grown_new hb2 own2 grow3; clear own2 hb2 grow3))
    | (at_builtin; (refine wpList_append_rd rfl _ _ 29 rfl w1.heap.size 5 i0 (.int .u8 0) 1 Tryz.underlying29 hi hz0 hz1 hz2 rfl _ _ _ rfl own3 A ca (xs.map Bv) (by simp; rfl) (hx1.below hb3) (H1.out xs) (by simp only [List.length_map]; unfold maxLen; omega) (by simp only [List.length_map]; omega) hb3.size ?_; intro v4 w4 own4 grow4; have hb4 := grown_new hb3 own3 grow4; clear own3 hb3 grow4))
    | fail)
  obtain ⟨hd, hhd⟩ : ∃ hd, hd = ps ++ xs := ⟨_, rfl⟩
  have own5 : w4.ownsRow w1.heap.size 5 1 v4 hd.length (hd.map Bv) := by
    have e1 : hd.length = 0 + (ps.map Bv).length + (xs.map Bv).length := by rw [hhd]; simp
    have e2 : hd.map Bv = [] ++ ps.map Bv ++ xs.map Bv := by rw [hhd]; simp
    rw [e1, e2]; exact own4
  have hhl : hd.length = ps.length + xs.length := by rw [hhd, List.length_append]
  have rd4 := rd1.below hb4
  have hx4 := hx1.below hb4
  have HT4 := Lib.hid ((HT.out.below hb1).below hb4)
  have HHL := Lib.hid hhl; clear hhl
  have HHD := Lib.hid hhd; clear hhd own4
  refine (sum_two w4 A1 A c1 ca ps xs rd4 hx4 HT4.out (by omega)).mono ?_
  rintro e w5 ⟨rfl, rfl⟩
  rw [← HHD.out]
  have hcl := crc_lt (s := 0) (by decide) hd
  go_wp2_with fail
  refine (mask_any _ _ hcl).mono ?_
  rintro e w6 ⟨rfl, rfl⟩
  have hml := maskN_lt (crc 0 hd)
  obtain ⟨m, hm⟩ : ∃ m, m = maskN (crc 0 hd) := ⟨_, rfl⟩
  rw [← hm] at hml ⊢
  have HM := Lib.hid hm; clear hm hcl
  have hb5 := hb4.alloc hb4.size (.cells #[.slice A1 ps.length c1, .slice A xs.length ca] 29)
  have own6 := own5.alloc (.cells #[.slice A1 ps.length c1, .slice A xs.length ca] 29)
  generalize w4.alloc (.cells #[.slice A1 ps.length c1, .slice A xs.length ca] 29) = w6 at *
  clear hb4 own5 rd4 hx4
  have HS := Lib.hid hb5.size
  go_wp2_with (first
    | (at_builtin; go_must (refine wpList_append_own _ rfl _ _ 29 rfl w1.heap.size 5 i0 (.int .u8 0) 1 1 Tryz.underlying29 hi hz0 hz1 hz2 rfl (by decide) _ hd.length (hd.map Bv) rfl (own6.alloc _) ⟨w6.heap.size, 0, none⟩ 4 4 [.int .u8 ((m : Int) % 256), .int .u8 ((m : Int) / 256 % 256), .int .u8 ((m : Int) / 65536 % 256), .int .u8 ((m : Int) / 16777216)] rfl rfl (World.news_of_block (heap_alloc_new _ _)) (by simp [Value.oneCell']) (by have := HHL.out; unfold maxLen; omega) (by have := HHL.out; omega) (by have := HS.out; simp; omega) ?_; intro v7 w7 own7 grow7 _))
    | fail)
  go_wp2
  go_ret2
  refine ⟨_, rfl, ?_, ?_⟩
  · have e : frameF xs = hd ++ low4 m := by rw [HM.out, HHD.out, HPS.out]; rfl
    rw [e, List.length_append, low4_length, List.map_append, ← low_vals hml]
    exact own7.lower hb1.size
  · exact hb1.trans (((hb5.alloc HS.out _).grown grow7 (by have := HS.out; simp; omega) (fun k h => (own6.lt k h).1)).mono hb1.size)
end
end Go.Proofs.YtnmbjhpecblioaaGreatDoor
