/-
  Few operations; what an operation appends.
-/
import Derived.Laws.MakeOwn
import Derived.Test.YtnmbjhpecblioaaGreatDoorWop
import Derived.Test.YtnmbjhpecblioaaGreatDoorJn
namespace Go.Proofs.YtnmbjhpecblioaaGreatDoor
set_option linter.unusedVariables false
set_option linter.unusedSimpArgs false
open Go.RowKit
/-- What an operation appends. -/
def obytes (o : OpW) : List UInt8 := o.bs ++ List.replicate (o.more % 2500) 0
theorem obytes_len (o : OpW) (h : o.bs.length ≤ 1000) : (obytes o).length ≤ 3500 := by
  unfold obytes
  rw [List.length_append, List.length_replicate]
  have := Nat.mod_lt o.more (show 0 < 2500 by decide)
  omega
/-- What few tells. -/
def WFewEnd (w : World) (l : List OpW) (e : Ending) (w' : World) : Prop := ∃ F, e = .returned (.bool F) ∧ (F = true → l.length ≤ 40 ∧ ∀ o ∈ l, o.bs.length ≤ 1000) ∧ Below w.heap.size w w'
section
set_option maxHeartbeats 1600000
set_option maxRecDepth 100000
theorem wfew_any (A : Option Addr) (c : Nat) (l : List OpW) (w : World) (hx : Rd w A (l.flatMap opW)) (hlc : l.length ≤ c) (hz : ∀ o ∈ l, OpWOk w o) (hcm : c ≤ 9223372036854775807) :
    Calls Tryz.prog 10 #[.slice A l.length c] w (WFewEnd w l) := by
  have HX := Lib.hid hx; have HZ := Lib.hid hz
  clear hx hz
  go_enter Tryz.func10, Tryz.ntmps10
  go_wp2
  go_loopw [7] (fun s7 wr => ∃ k : Nat, s7 = .int .i64 k ∧ k ≤ l.length ∧ Aside (∀ o ∈ l.take k, o.bs.length ≤ 1000) ∧ Aside (Below w.heap.size w wr)) (fun s7 _ => l.length - (intOf s7).toNat)
  case atStart => exact ⟨0, rfl, by omega, (fun o ho => by simp at ho), Below.refl _ _⟩
  case round =>
    obtain ⟨k, rfl, hk, AL, BW⟩ := hrel
    have k0 : (0 : Int) ≤ (k : Int) := by omega
    by_cases hlt : k < l.length
    · have k1 : (k : Int) < (l.length : Int) := by omega
      obtain ⟨x, hxk⟩ : ∃ x, l[k]? = some x := ⟨_, List.getElem?_eq_getElem (by omega)⟩
      obtain ⟨b, off, rfl, hc⟩ := (HX.out.below BW.out).flat opW_len (by decide) hxk
      have c0 := hc 0 _ rfl; have c1 := hc 1 _ rfl; have c2 := hc 2 _ rfl; have c3 := hc 3 _ rfl; have c4 := hc 4 _ rfl
      rw [Nat.add_zero] at c0
      have hba := BW.out.alloc BW.out.size (.cells #[.int .i64 x.kd, .int .i64 x.n, .int .u16 (x.more : Nat), .slice x.A x.bs.length x.c, .string x.nm] 31)
      have HBA := Lib.hid hba
      have hal : x.bs.length ≤ 1000 → ∀ o ∈ l.take (k + 1), o.bs.length ≤ 1000 := fun hb o ho => by
        obtain ⟨h1, h2⟩ := List.getElem?_eq_some_iff.1 hxk
        rw [List.take_succ_eq_append_getElem h1, h2] at ho
        rcases List.mem_append.1 ho with ho | ho
        · exact AL.out o ho
        · rw [List.mem_singleton] at ho; rw [ho]; exact hb
      have HAL := Lib.hid hal
      clear hc hxk hba hal
      by_cases hb : 1000 < x.bs.length
      · have g1 : (1000 : Int) < (x.bs.length : Int) := by omega
        go_wp2
        go_ret
        exact ⟨false, rfl, (fun h => by cases h), HBA.out⟩
      · have g1 : ¬ (1000 : Int) < (x.bs.length : Int) := by omega
        by_cases hn : 100 < x.nm.size
        · have g2 : (100 : Int) < (x.nm.size : Int) := by omega
          go_wp2
          go_ret
          exact ⟨false, rfl, (fun h => by cases h), HBA.out⟩
        · have g2 : ¬ (100 : Int) < (x.nm.size : Int) := by omega
          go_wp2
          go_roundw
          case rel => exact ⟨k + 1, by go_num, by omega, HAL.out (by omega), HBA.out⟩
          case measure => simp [intOf]; omega
    · obtain rfl : k = l.length := by omega
      have HA := Lib.hid AL.out; have HB := Lib.hid BW.out
      clear AL BW
      by_cases h40 : l.length ≤ 40
      · have g1 : (l.length : Int) ≤ 40 := by omega
        go_wp2
        go_ret
        exact ⟨true, rfl, fun _ => ⟨h40, fun o ho => HA.out o (by rw [List.take_length]; exact ho)⟩, HB.out⟩
      · have g1 : ¬ (l.length : Int) ≤ 40 := by omega
        go_wp2
        go_ret
        exact ⟨false, rfl, (fun h => by cases h), HB.out⟩
theorem obytes_own (o : OpW) (w : World) (ho : OpWOk w o) (hl : o.bs.length ≤ 1000) : Calls Tryz.prog 29 #[.agg (opW o).toArray] w fun e w' =>
    ∃ A c, e = .returned (.slice A (obytes o).length c) ∧ w'.ownsRow w.heap.size 5 1 (.slice A (obytes o).length c) (obytes o).length ((obytes o).map Bv) ∧ Below w.heap.size w w' := by
  obtain ⟨i0, hi, hz0, hz1, hz2⟩ := info_parts infoU8
  obtain ⟨kd, n, more, A, c, bs, nm⟩ := o
  obtain ⟨ho1, ho2, ho3, ho4, ho5⟩ := ho
  simp only at hl ho1 ho2 ho3 ho4 ho5
  obtain ⟨W1, hW1⟩ : ∃ W1, W1 = w.alloc (.cells #[.int .i64 kd, .int .i64 n, .int .u16 (more : Nat), .slice A bs.length c, .string nm] 31) := ⟨_, rfl⟩
  have hb1 : Below w.heap.size w W1 := by rw [hW1]; exact (Below.refl _ w).alloc (Nat.le_refl _) _
  have hbx : W1.heap[w.heap.size]? = some (.cells #[.int .i64 kd, .int .i64 n, .int .u16 (more : Nat), .slice A bs.length c, .string nm] 31 (0, 0)) := by rw [hW1]; exact heap_alloc_new w _
  obtain ⟨z, hz⟩ : ∃ z, z = more % 2500 := ⟨_, rfl⟩
  have hz9 : z < 2500 := by rw [hz]; exact Nat.mod_lt _ (by decide)
  have hrem : ((more : Nat) : Int).tmod 2500 = (z : Int) := by rw [hz]; rfl
  have hwr : IntKind.u16.wrap (((more : Nat) : Int).tmod 2500) = (z : Int) := by rw [hrem]; simp [IntKind.wrap, IntKind.bits, IntKind.signed]; omega
  have hwz : IntKind.u16.wrap ((z : Nat) : Int) = (z : Int) := by simp [IntKind.wrap, IntKind.bits, IntKind.signed]; omega
  obtain ⟨Z, hZ⟩ : ∃ Z, Z = madeCells (Value.int .u8 0).cells (z * 1) := ⟨_, rfl⟩
  have hmk : ∀ W : World, (Instr.makeSlice 29 (.int .u16 (z : Int)) (.int .u16 (z : Int))).run Tryz.prog W = .ok (.slice (some ⟨W.heap.size, 0, none⟩) z z) (W.alloc (.cells Z 5)) := fun W => by
    have := run_make (P := Tryz.prog) W 29 5 i0 (.int .u8 0) Tryz.underlying29 hi hz0 .u16 .u16 (z : Int) (z : Int) (by omega) (Int.le_refl _) (by rw [hz2]; omega) (by omega)
    rw [this, Int.toNat_natCast, hz1, hZ]
  have hZl : Z = ((List.replicate z (0 : UInt8)).map Bv).toArray := by
    have e : (madeCells (Value.int .u8 0).cells (z * 1)).toList = (List.replicate z (0 : UInt8)).map Bv := by
      rw [List.map_replicate, Nat.mul_one]
      exact toList_madeCells_one (.int .u8 0) z
    rw [hZ, ← e]
  have hob : obytes ⟨kd, n, more, A, c, bs, nm⟩ = bs ++ List.replicate z 0 := by unfold obytes; rw [hz]
  rw [hob]
  have hlen : (bs ++ List.replicate z (0 : UInt8)).length ≤ 3500 := by rw [List.length_append, List.length_replicate]; omega
  obtain ⟨LL, hLL⟩ : ∃ LL, LL = bs ++ List.replicate z (0 : UInt8) := ⟨_, rfl⟩
  rw [← hLL] at hlen ⊢
  have hj : ∀ (W : World) (R Q : Nat), Below w.heap.size w W → W.heap[R]? = some (.cells #[.slice A bs.length c, .slice (some ⟨Q, 0, none⟩) z z] 29 (0, 0)) → W.heap[Q]? = some (.cells Z 5 (0, 0)) →
      Calls Tryz.prog 58 #[.slice (some ⟨R, 0, none⟩) 2 2] W fun e w' => ∃ A6 c6, e = .returned (.slice A6 LL.length c6) ∧ w'.ownsRow w.heap.size 5 1 (.slice A6 LL.length c6) LL.length (LL.map Bv) ∧ Below w.heap.size w w' := fun W R Q hb hr hq => by
    have hP : ∀ q ∈ [(A, c, bs), (some (⟨Q, 0, none⟩ : Addr), z, List.replicate z (0 : UInt8))], Rd W q.1 (q.2.2.map Bv) := fun q hq' => by
      simp only [List.mem_cons, List.not_mem_nil, or_false] at hq'
      rcases hq' with rfl | rfl
      · exact ho2.below hb
      · intro k v hv
        refine ⟨Q, 0, rfl, ?_⟩
        rw [cell_blk hq, Nat.zero_add, hZl, List.getElem?_toArray]
        exact hv
    have hS : Rd W (some ⟨R, 0, none⟩) ([(A, c, bs), (some (⟨Q, 0, none⟩ : Addr), z, List.replicate z (0 : UInt8))].map partV) := fun k v hv => by
      refine ⟨R, 0, rfl, ?_⟩
      rw [cell_blk hr, Nat.zero_add]
      simpa [partV] using hv
    have hjl : joined [(A, c, bs), (some (⟨Q, 0, none⟩ : Addr), z, List.replicate z (0 : UInt8))] = LL := by rw [hLL]; simp [joined]
    refine (join_any W (some ⟨R, 0, none⟩) 2 [(A, c, bs), (some (⟨Q, 0, none⟩ : Addr), z, List.replicate z (0 : UInt8))] hS hP (by rw [hjl]; omega) (by simp)).mono ?_
    rintro e w' ⟨v, rfl, ho, hb'⟩
    rw [hjl] at ho
    obtain ⟨A6, c6, e6, hr6, -, -, -⟩ := own_rd ho
    subst e6
    exact ⟨A6, c6, rfl, ho.lower hb.size, hb.trans (hb'.mono hb.size)⟩
  obtain ⟨W2, hW2⟩ : ∃ W2, W2 = (W1.alloc (.cells Z 5)).alloc (.cells #[.slice A bs.length c, .slice (some ⟨W1.heap.size, 0, none⟩) z z] 29) := ⟨_, rfl⟩
  have hz2w : W2.heap[W1.heap.size + 1]? = some (.cells #[.slice A bs.length c, .slice (some ⟨W1.heap.size, 0, none⟩) z z] 29 (0, 0)) := by
    rw [hW2]
    have := heap_alloc_new (W1.alloc (.cells Z 5)) (.cells #[.slice A bs.length c, .slice (some ⟨W1.heap.size, 0, none⟩) z z] 29 (0, 0))
    rwa [World.size_alloc] at this
  have hq2w : W2.heap[W1.heap.size]? = some (.cells Z 5 (0, 0)) := by
    rw [hW2]
    exact (Below.heap_alloc _ _ _ (by rw [World.size_alloc]; omega)).trans (heap_alloc_new W1 _)
  have hb2w : Below w.heap.size w W2 := by
    rw [hW2]
    exact (hb1.alloc hb1.size _).alloc (by rw [World.size_alloc]; have := hb1.size; omega) _
  have HJ := Lib.hid (hj W2.drew _ _ (below_drewN hb2w 1) hz2w hq2w)
  rw [hW2] at HJ
  have d2 : W1.cell? ⟨w.heap.size, 2, none⟩ = some (.int .u16 (more : Nat)) := cell_blk hbx 2
  have d3 : W1.cell? ⟨w.heap.size, 3, none⟩ = some (.slice A bs.length c) := cell_blk hbx 3
  have d3a : ∀ o : Obj, (W1.alloc o).cell? ⟨w.heap.size, 3, none⟩ = some (.slice A bs.length c) := fun o => cell_blk ((Below.heap_alloc _ _ _ (blk_lt hbx)).trans hbx) 3
  have HW1 := Lib.hid hW1; have HB1 := Lib.hid hb1; have HHZ := Lib.hid hz
  unfold opW
  clear hLL hob hj hW1 hb1 hbx ho2 hZ hZl hz hlen hW2 hz2w hq2w hb2w
  simp only
  go_enter Tryz.func29, Tryz.ntmps29
  go_wp2_with fail
  rw [← HW1.out]
  go_wp2_with fail
  go_region_law (first
    | (go_simp; go_at_call 58; go_loud (refine HJ.out.mono ?_; rintro e w6 ⟨A6, c6, rfl, hr6, hb6⟩; have HR6 := Lib.hid hr6; have HB6 := Lib.hid hb6; clear hr6 hb6))
    | fail)
  all_goals
    go_wp2
    go_ret
    exact ⟨A6, c6, rfl, HR6.out, HB6.out⟩
theorem obytes_any (o : OpW) (w : World) (ho : OpWOk w o) (hl : o.bs.length ≤ 1000) : Calls Tryz.prog 29 #[.agg (opW o).toArray] w fun e w' =>
    ∃ A c, e = .returned (.slice A (obytes o).length c) ∧ Rd w' A ((obytes o).map Bv) ∧ Below w.heap.size w w' := by
  refine (obytes_own o w ho hl).mono ?_
  rintro e w' ⟨A, c, rfl, hown, hb⟩
  obtain ⟨A6, c6, e6, hr6, -, -, -⟩ := own_rd hown
  injection e6 with e1 _ e3
  subst e1; subst e3
  exact ⟨A, c, rfl, hr6, hb⟩
end
end Go.Proofs.YtnmbjhpecblioaaGreatDoor
