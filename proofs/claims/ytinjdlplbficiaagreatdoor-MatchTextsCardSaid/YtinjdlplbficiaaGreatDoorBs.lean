/-
  A strings.Builder of the call's own: texts written behind what it holds.
-/
import Derived.Test.YtinjdlplbficiaaGreatDoorBsr
namespace Go.Proofs.YtinjdlplbficiaaGreatDoor
set_option linter.unusedVariables false
set_option linter.unusedSimpArgs false
open Go.RowKit
section
set_option maxHeartbeats 1600000
set_option maxRecDepth 100000
theorem ws_k (B b : Nat) (s : ByteArray) (xs : List UInt8) (w : World) (h : Bld B b xs w) (hB : B ≤ w.heap.size) (hl : xs.length + s.size ≤ 140737488355328) :
    Calls Tryz.prog 18 #[.pointer (some ⟨b, 0, none⟩), .string s] w fun e w' => e = .returned (.tuple #[.int .i64 s.size, .nilIface]) ∧ Bld B b (xs ++ bl s) w' ∧ RowKit.Below B w w' ∧ Lib.OthersKept 5 (some b) w w' := by
  obtain ⟨i0, hi, hz0, hz1, hz2⟩ := info_parts infoU8
  have hc := check_any B b xs w h
  clear h
  have HC := Lib.hid hc; clear hc
  go_enter Tryz.func18, Tryz.ntmps18
  go_wp2_with fail
  refine HC.out.mono ?_
  rintro e w1 ⟨rfl, h1, hb1, hs1, hk1⟩
  obtain ⟨hBb, v, hbk, hown, hv⟩ := h1
  have c0 := cell_blk hbk 0
  have c1 := cell_blk hbk 1
  have f1 := free_blk hbk 1
  simp only [List.getElem?_toArray, List.getElem?_cons_zero, List.getElem?_cons_succ] at c0 c1
  rw [List.length_map] at hown
  have hne := own_blk hown hbk (by decide)
  have hbl := blk_lt hbk
  rw [← hs1] at hB
  have HS1 := Lib.hid hs1; clear hs1
  have HB := Lib.hid hbk; clear hbk
  have HV := Lib.hid hv; clear hv
  have HNE := Lib.hid hne; clear hne
  have HB1 := Lib.hid hb1; clear hb1
  have HK1 := Lib.hid hk1; clear hk1
  go_wp2_with (first | (at_builtin; go_must (refine Lib.wpList_append_own_string _ rfl _ _ 45 9 rfl B 5 i0 Tryz.underlying45 Tryz.underlying9 hi hz0 hz1 hz2 _ xs.length (xs.map Bv) rfl hown s rfl (by unfold maxLen; omega) (by omega) (by omega) ?_; intro v' w2 hown' hgrow hg'; have hb2 := (hgrow.block b hbl (Ne.symm HNE.out)).trans HB.out; have k1 := cell_blk hb2 1; have g1 := free_blk hb2 1; simp only [List.getElem?_toArray, List.getElem?_cons_zero, List.getElem?_cons_succ] at k1; have HB2 := Lib.hid hb2; clear hb2; obtain ⟨A2, c2, rfl, -⟩ := own_rd hown')) | fail)
  have hne2 := own_blk hown' HB2.out (by decide)
  have hrow : (w2.setCell ⟨b, 1, none⟩ (.slice A2 (xs.length + s.size) c2)).ownsRow B 5 1 (.slice A2 (xs.length + s.size) c2) (xs.length + s.size) (xs.map Bv ++ Lib.strCells s) :=
    own_moved hown' (fun g hg => heap_setCell_other _ _ _ _ (fun e => hne2 (by rw [hg, e])))
  have hset := set_blk HB2.out 1 (.slice A2 (xs.length + s.size) c2)
  have hbl2 : RowKit.Below B w w2 := HB1.out.trans ((RowKit.Below.refl B w1).grown hgrow hB (fun k e => (hown.lt k e).1))
  have hk2 : Lib.OthersKept 5 (some b) w w2 := HK1.out.trans ((Lib.OthersKept.refl _ _ w1).grown hgrow (Lib.ownsRow_kind hown))
  have hlast : (xs ++ bl s).map Bv = xs.map Bv ++ Lib.strCells s := by rw [List.map_append]; rfl
  have HK2 := Lib.hid hk2; clear hk2
  have HL := Lib.hid hlast; clear hlast
  have HSET := Lib.hid hset; clear hset
  have HROW := Lib.hid hrow; clear hrow
  have HNE2 := Lib.hid hne2; clear hne2
  go_ret2
  refine ⟨rfl, .inr ⟨hBb, .slice A2 (xs.length + s.size) c2, HSET.out, ?_, HNE2.out⟩, hbl2.setCell hBb _, HK2.out.setCell ⟨b, 1, none⟩ rfl _⟩
  rw [HL.out]
  have := HROW.out
  rw [List.length_append, List.length_map, Lib.strCells_length]
  exact this
theorem ws_any (B b : Nat) (s : ByteArray) (xs : List UInt8) (w : World) (h : Bld B b xs w) (hB : B ≤ w.heap.size) (hl : xs.length + s.size ≤ 140737488355328) :
    Calls Tryz.prog 18 #[.pointer (some ⟨b, 0, none⟩), .string s] w fun e w' => e = .returned (.tuple #[.int .i64 s.size, .nilIface]) ∧ Bld B b (xs ++ bl s) w' ∧ RowKit.Below B w w' :=
  (ws_k B b s xs w h hB hl).mono fun _ _ h => ⟨h.1, h.2.1, h.2.2.1⟩
end
end Go.Proofs.YtinjdlplbficiaaGreatDoor
