/-
  A strings.Builder of the call's own, fresh or written: bytes and texts written behind what it holds.
-/
import Derived.Test.YtinjdlplbficiaaGreatDoorLb
import Derived.Test.YtinjdlplbficiaaGreatDoorGen
import Derived.Test.YtinjdlplbficiaaGreatDoorShelf
import Derived.Lib.AppendStr
import Derived.Lib.OthersKept
import Derived.Lib.OwnKind
namespace Go.Proofs.YtinjdlplbficiaaGreatDoor
set_option linter.unusedVariables false
set_option linter.unusedSimpArgs false
open Go.RowKit

/-- A builder in block b that holds these bytes, fresh or written. -/
def Bld (B b : Nat) (xs : List UInt8) (w : World) : Prop := Lib.IsBuilder 47 5 B b (xs.map Bv) w
def BldU (B b : Nat) (xs : List UInt8) (w : World) : Prop := Lib.BuilderAt 47 5 B b (.pointer (some ⟨b, 0, none⟩)) (xs.map Bv) w
theorem BldU.bld {B b : Nat} {xs : List UInt8} {w : World} (h : BldU B b xs w) : Bld B b xs w := .inr h
theorem Bld.parts {B b : Nat} {xs : List UInt8} {w : World} (h : Bld B b xs w) : B ≤ b ∧ b < w.heap.size := by
  rcases h with ⟨h1, v, h2, _⟩ | ⟨h1, v, h2, _⟩ <;> exact ⟨h1, blk_lt h2⟩
theorem bld_new (w : World) : Bld w.heap.size w.heap.size [] (w.alloc (.cells #[.pointer none, .slice none 0 0] 47)) :=
  .inl ⟨Nat.le_refl _, .slice none 0 0, heap_alloc_new w _, World.ownsRow_nil _ _ _ _, by simp [Value.ownBlock]⟩
/-- A builder stays where no block of its own is turned. -/
theorem Bld.moved {B b : Nat} {xs : List UInt8} {w w' : World} (h : Bld B b xs w) (hb : RowKit.Below w.heap.size w w') : Bld B b xs w' := by
  rcases h with ⟨h1, v, h2, h3, h4⟩ | ⟨h1, v, h2, h3, h4⟩
  · exact .inl ⟨h1, v, (hb.block b (blk_lt h2)).trans h2, own_moved h3 (fun g hg => hb.block g (h3.lt g hg).2), h4⟩
  · exact .inr ⟨h1, v, (hb.block b (blk_lt h2)).trans h2, own_moved h3 (fun g hg => hb.block g (h3.lt g hg).2), h4⟩
theorem infoBu : (Tryz.prog.info? 47).map (fun i => (i.zero, i.size, i.bytes)) = some (some (.agg #[.pointer none, .slice none 0 0]), 2, 32) := by kernel_rfl
section
set_option maxHeartbeats 1600000
set_option maxRecDepth 100000
theorem check_used (w : World) (b : Nat) (h : w.cell? ⟨b, 0, none⟩ = some (.pointer (some ⟨b, 0, none⟩))) :
    Calls Tryz.prog 38 #[.pointer (some ⟨b, 0, none⟩)] w fun e w' => e = .returned (.tuple #[]) ∧ w = w' := by
  obtain ⟨j, hj, _⟩ := info_parts infoBu
  have hnp := fun (u : World) => Lib.run_neq_ptr_same u (⟨b, 0, none⟩ : Addr) Tryz.underlying44 hj
  go_enter Tryz.func38, Tryz.ntmps38
  go_wp2
  go_end0
  exact ⟨rfl, rfl⟩
theorem check_fresh (w : World) (b : Nat) (h0 : w.cell? ⟨b, 0, none⟩ = some (.pointer none)) (hsh : w.shape? b = some (47, 2)) (hfz : w.frozen? ⟨b, 0, none⟩ = false) :
    Calls Tryz.prog 38 #[.pointer (some ⟨b, 0, none⟩)] w fun e w' => e = .returned (.tuple #[]) ∧ w' = w.setCell ⟨b, 0, none⟩ (.pointer (some ⟨b, 0, none⟩)) := by
  obtain ⟨j, hj, _, hjs, _⟩ := info_parts infoBu
  go_enter Tryz.func38, Tryz.ntmps38
  go_wp2
  rw [Lib.run_to_unsafe w ⟨b, 0, none⟩ Tryz.underlying44 Tryz.underlying102 hj (by rw [hjs]; decide) hsh (Nat.zero_lt_succ 1)]
  simp only [Result.andThen]
  rw [Oper.upon_value]
  go_wp2
  rw [run_callFunc_extern Tryz.func62 (by kernel_rfl) (by kernel_rfl) (by kernel_rfl) (e := Extern.AbiNoEscape.same) (by kernel_rfl)]
  rw [Lib.run_noEscape]
  simp only [Result.andThen]
  rw [Oper.upon_value]
  go_wp2
  rw [Lib.run_from_unsafe w ⟨b, 0, none⟩ Tryz.underlying102 Tryz.underlying44 hj hsh (by kernel_rfl)]
  simp only [Result.andThen]
  rw [Oper.upon_value]
  go_wp2
  go_end0
  exact ⟨rfl, rfl⟩
theorem check_any (B b : Nat) (xs : List UInt8) (w : World) (h : Bld B b xs w) :
    Calls Tryz.prog 38 #[.pointer (some ⟨b, 0, none⟩)] w fun e w' => e = .returned (.tuple #[]) ∧ BldU B b xs w' ∧ RowKit.Below B w w' ∧ w'.heap.size = w.heap.size ∧ Lib.OthersKept 5 (some b) w w' := by
  rcases h with h | h
  · refine (check_fresh w b h.cell0 h.shape h.frozen0).mono ?_
    rintro e w' ⟨rfl, rfl⟩
    exact ⟨rfl, h.used _, (RowKit.Below.refl B w).setCell (p := ⟨b, 0, none⟩) h.1 _, by simp [World.setCell], (Lib.OthersKept.refl _ _ w).setCell ⟨b, 0, none⟩ rfl _⟩
  · refine (check_used w b h.cell0).mono ?_
    rintro e w' ⟨rfl, rfl⟩
    exact ⟨rfl, h, RowKit.Below.refl B _, rfl, Lib.OthersKept.refl _ _ _⟩
theorem wb_k (B b n : Nat) (xs : List UInt8) (w : World) (h : Bld B b xs w) (hB : B ≤ w.heap.size) (hn : n < 256) (hl : xs.length + 1 ≤ 140737488355328) :
    Calls Tryz.prog 20 #[.pointer (some ⟨b, 0, none⟩), .int .u8 (n : Nat)] w fun e w' => e = .returned .nilIface ∧ Bld B b (xs ++ [UInt8.ofNat n]) w' ∧ RowKit.Below B w w' ∧ Lib.OthersKept 5 (some b) w w' := by
  obtain ⟨i0, hi, hz0, hz1, hz2⟩ := info_parts infoU8
  have hc := check_any B b xs w h
  clear h
  have HC := Lib.hid hc; clear hc
  go_enter Tryz.func20, Tryz.ntmps20
  go_wp2_with fail
  refine HC.out.mono ?_
  rintro e w1 ⟨rfl, h1, hb1, hs1, hk1⟩
  obtain ⟨hBb, v, hbk, hown, hv⟩ := h1
  have c0 := cell_blk hbk 0
  have c1 := cell_blk hbk 1
  have f1 := free_blk hbk 1
  simp only [List.getElem?_toArray, List.getElem?_cons_zero, List.getElem?_cons_succ] at c0 c1
  rw [List.length_map] at hown
  have hne := own_blk hown hbk (by decide)
  have hbl := blk_lt hbk
  rw [← hs1] at hB
  have HS1 := Lib.hid hs1; clear hs1
  have HB := Lib.hid hbk; clear hbk
  have HV := Lib.hid hv; clear hv
  have HNE := Lib.hid hne; clear hne
  have HB1 := Lib.hid hb1; clear hb1
  have HK1 := Lib.hid hk1; clear hk1
  go_wp2_with (first | (at_builtin; go_must (refine wpList_append_own _ rfl _ _ 45 rfl B 5 i0 (.int .u8 0) 1 1 Tryz.underlying45 hi hz0 hz1 hz2 rfl (by decide) _ xs.length (xs.map Bv) rfl (hown.alloc _) ⟨w1.heap.size, 0, none⟩ 1 1 [.int .u8 (n : Nat)] rfl rfl (World.news_of_block (heap_alloc_new _ _)) (by simp [Value.oneCell']) (by unfold maxLen; omega) (by omega) (by simp; omega) ?_; intro v' w2 hown' hgrow hg'; have hb2 := (hgrow.block b (by simp; omega) (Ne.symm HNE.out)).trans ((heap_alloc_old w1 _ hbl).trans HB.out); have k1 := cell_blk hb2 1; have g1 := free_blk hb2 1; simp only [List.getElem?_toArray, List.getElem?_cons_zero, List.getElem?_cons_succ] at k1; have HB2 := Lib.hid hb2; clear hb2; obtain ⟨A2, c2, rfl, -⟩ := own_rd hown')) | fail)
  have hne2 := own_blk hown' HB2.out (by decide)
  have hrow : (w2.setCell ⟨b, 1, none⟩ (.slice A2 (xs.length + 1) c2)).ownsRow B 5 1 (.slice A2 (xs.length + 1) c2) (xs.length + 1) (xs.map Bv ++ [.int .u8 (n : Nat)]) :=
    own_moved hown' (fun g hg => heap_setCell_other _ _ _ _ (fun e => hne2 (by rw [hg, e])))
  have hset := set_blk HB2.out 1 (.slice A2 (xs.length + 1) c2)
  have hbl2 : RowKit.Below B w w2 := HB1.out.trans ((((RowKit.Below.refl _ w1).alloc (Nat.le_refl _) _).mono hB).grown hgrow (by simp; omega) (fun k e => (hown.lt k e).1))
  have hk2 : Lib.OthersKept 5 (some b) w w2 := HK1.out.trans (((Lib.OthersKept.refl _ _ w1).alloc _).grown hgrow (Lib.ownsRow_kind (hown.alloc _)))
  have hlast : (xs ++ [UInt8.ofNat n]).map Bv = xs.map Bv ++ [.int .u8 (n : Nat)] := by rw [List.map_append, List.map_singleton, ← byte_of rfl hn]
  have HK2 := Lib.hid hk2; clear hk2
  have HL := Lib.hid hlast; clear hlast
  have HSET := Lib.hid hset; clear hset
  have HROW := Lib.hid hrow; clear hrow
  have HNE2 := Lib.hid hne2; clear hne2
  go_ret
  refine ⟨rfl, .inr ⟨hBb, .slice A2 (xs.length + 1) c2, HSET.out, ?_, HNE2.out⟩, hbl2.setCell hBb _, HK2.out.setCell ⟨b, 1, none⟩ rfl _⟩
  rw [HL.out]
  have := HROW.out
  rw [List.length_append, List.length_map]
  exact this
theorem wb_any (B b n : Nat) (xs : List UInt8) (w : World) (h : Bld B b xs w) (hB : B ≤ w.heap.size) (hn : n < 256) (hl : xs.length + 1 ≤ 140737488355328) :
    Calls Tryz.prog 20 #[.pointer (some ⟨b, 0, none⟩), .int .u8 (n : Nat)] w fun e w' => e = .returned .nilIface ∧ Bld B b (xs ++ [UInt8.ofNat n]) w' ∧ RowKit.Below B w w' :=
  (wb_k B b n xs w h hB hn hl).mono fun _ _ h => ⟨h.1, h.2.1, h.2.2.1⟩
theorem str_any (B b : Nat) (xs : List UInt8) (w : World) (h : Bld B b xs w) (hB : B ≤ w.heap.size) :
    Calls Tryz.prog 19 #[.pointer (some ⟨b, 0, none⟩)] w fun e w' => e = .returned (.string (mkB xs)) ∧ RowKit.Below B w w' :=
  (Tryz.Builder_String_any B b xs w h hB).mono fun _ _ h => h
theorem grow_any (n : Nat) (w : World) (hn : n ≤ 281474976710656) :
    Calls Tryz.prog 39 #[.pointer (some ⟨w.heap.size, 0, none⟩), .int .i64 n] (w.alloc (.cells #[.pointer none, .slice none 0 0] 47)) fun e w' => e = .returned (.tuple #[]) ∧ Bld w.heap.size w.heap.size [] w' ∧ RowKit.Below w.heap.size w w' :=
  (Tryz.Builder_Grow_fresh w.heap.size w.heap.size n _ (Nat.le_refl _) (heap_alloc_new w _) (by simp) hn).mono fun _ _ h => ⟨h.1, .inr h.2.1, ((RowKit.Below.refl _ w).alloc (Nat.le_refl _) _).trans h.2.2⟩
end
end Go.Proofs.YtinjdlplbficiaaGreatDoor
