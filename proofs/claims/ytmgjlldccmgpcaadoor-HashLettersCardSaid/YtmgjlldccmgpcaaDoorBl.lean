/-
  A strings.Builder of the call's own, grown once and written byte by byte.
-/
import Derived.Test.YtmgjlldccmgpcaaDoorGen
import Derived.Test.YtmgjlldccmgpcaaDoorShelf
namespace Go.Proofs.YtmgjlldccmgpcaaDoor
set_option linter.unusedVariables false
set_option linter.unusedSimpArgs false
open Go.RowKit

/-- A builder in block b that holds these bytes. -/
def BldIs (B b : Nat) (xs : List UInt8) (w : World) : Prop := Lib.BuilderAt 91 5 B b (.pointer (some ⟨b, 0, none⟩)) (xs.map Bv) w
theorem BldIs.drewN {B b : Nat} {xs : List UInt8} {w : World} (h : BldIs B b xs w) (n : Nat) : BldIs B b xs (w.drewN n) := h

theorem infoBu : (Tryd.prog.info? 91).map (fun i => (i.zero, i.size, i.bytes)) = some (some (.agg #[.pointer none, .slice none 0 0]), 2, 32) := by kernel_rfl
section
set_option maxHeartbeats 800000
set_option maxRecDepth 100000
theorem check_any (w : World) (b : Nat) (h : w.cell? ⟨b, 0, none⟩ = some (.pointer (some ⟨b, 0, none⟩))) :
    Calls Tryd.prog 75 #[.pointer (some ⟨b, 0, none⟩)] w fun e w' => e = .returned (.tuple #[]) ∧ w = w' := by
  obtain ⟨j, hj, _⟩ := info_parts infoBu
  have hnp := fun (u : World) => Lib.run_neq_ptr_same u (⟨b, 0, none⟩ : Addr) Tryd.underlying89 hj
  go_enter Tryd.func75, Tryd.ntmps75
  go_wp2
  go_end0
  exact ⟨rfl, rfl⟩
theorem wb_any (B b n : Nat) (xs : List UInt8) (w : World) (h : BldIs B b xs w) (hB : B ≤ w.heap.size) (hn : n < 256) (hl : xs.length + 1 ≤ 140737488355328) :
    Calls Tryd.prog 66 #[.pointer (some ⟨b, 0, none⟩), .int .u8 (n : Nat)] w fun e w' => e = .returned .nilIface ∧ BldIs B b (xs ++ [UInt8.ofNat n]) w' ∧ Below B w w' := by
  obtain ⟨i0, hi, hz0, hz1, hz2⟩ := info_parts infoU8
  obtain ⟨hBb, v, hbk, hown, hv⟩ := h
  have c0 := cell_blk hbk 0
  have c1 := cell_blk hbk 1
  have f1 := free_blk hbk 1
  simp only [List.getElem?_toArray, List.getElem?_cons_zero, List.getElem?_cons_succ] at c0 c1
  rw [List.length_map] at hown
  have hne := own_blk hown hbk (by decide)
  have hbl := blk_lt hbk
  have HB := Lib.hid hbk; clear hbk
  have HV := Lib.hid hv; clear hv
  have HNE := Lib.hid hne; clear hne
  go_enter Tryd.func66, Tryd.ntmps66
  go_wp2_with fail
  refine (check_any w b c0).mono ?_
  rintro e w1 ⟨rfl, rfl⟩
  go_wp2_with (first | (at_builtin; go_must (refine wpList_append_own _ rfl _ _ 28 rfl B 5 i0 (.int .u8 0) 1 1 Tryd.underlying28 hi hz0 hz1 hz2 rfl (by decide) _ xs.length (xs.map Bv) rfl (hown.alloc _) ⟨w.heap.size, 0, none⟩ 1 1 [.int .u8 (n : Nat)] rfl rfl (World.news_of_block (heap_alloc_new _ _)) (by simp [Value.oneCell']) (by unfold maxLen; omega) (by omega) (by simp; omega) ?_; intro v' w2 hown' hgrow hg'; have hb2 := (hgrow.block b (by simp; omega) (Ne.symm HNE.out)).trans ((heap_alloc_old w _ hbl).trans HB.out); have k1 := cell_blk hb2 1; have g1 := free_blk hb2 1; simp only [List.getElem?_toArray, List.getElem?_cons_zero, List.getElem?_cons_succ] at k1; have HB2 := Lib.hid hb2; clear hb2; obtain ⟨A2, c2, rfl, -⟩ := own_rd hown')) | fail)
  have hne2 := own_blk hown' HB2.out (by decide)
  have hrow : (w2.setCell ⟨b, 1, none⟩ (.slice A2 (xs.length + 1) c2)).ownsRow B 5 1 (.slice A2 (xs.length + 1) c2) (xs.length + 1) (xs.map Bv ++ [.int .u8 (n : Nat)]) :=
    own_moved hown' (fun g hg => heap_setCell_other _ _ _ _ (fun e => hne2 (by rw [hg, e])))
  have hset := set_blk HB2.out 1 (.slice A2 (xs.length + 1) c2)
  have hbl2 : Below B w w2 := (((Below.refl _ w).alloc (Nat.le_refl _) _).mono hB).grown hgrow (by simp; omega) (fun k e => (hown.lt k e).1)
  have hlast : (xs ++ [UInt8.ofNat n]).map Bv = xs.map Bv ++ [.int .u8 (n : Nat)] := by rw [List.map_append, List.map_singleton, ← byte_of rfl hn]
  have HL := Lib.hid hlast; clear hlast
  have HSET := Lib.hid hset; clear hset
  have HROW := Lib.hid hrow; clear hrow
  have HNE2 := Lib.hid hne2; clear hne2
  go_ret
  refine ⟨rfl, ⟨hBb, .slice A2 (xs.length + 1) c2, HSET.out, ?_, HNE2.out⟩, hbl2.setCell hBb _⟩
  rw [HL.out]
  have := HROW.out
  rw [List.length_append, List.length_map]
  exact this
end
end Go.Proofs.YtmgjlldccmgpcaaDoor
