/-
  How many bytes a disk's files have together.
-/
import Derived.Test.YtnmbjhpecblioaaGreatDoorDa
import Derived.Test.YtnmbjhpecblioaaGreatDoorDu
namespace Go.Proofs.YtnmbjhpecblioaaGreatDoor
set_option linter.unusedVariables false
set_option linter.unusedSimpArgs false
open Go.Maps Go.RowKit
/-- The bytes of those that have come. -/
def cameE (es : List Ent) (left : Lit → Bool) : Nat := ((es.filter fun e => !left (keyL e.nm)).map fun e => e.bs.length).sum
theorem came_start (es : List Ent) : cameE es (Maps.has (dmap es)) = 0 := by
  unfold cameE
  have : (es.filter fun e => !(Maps.has (dmap es) (keyL e.nm))) = [] := by
    rw [List.filter_eq_nil_iff]; intro e he
    rw [has_dmap]
    cases hh : lookE es e.nm with
    | none => exact absurd rfl (lookE_none hh e he)
    | some x => simp
  rw [this]; rfl
theorem came_end {es : List Ent} {left : Lit → Bool} (h : ∀ s, left (keyL s) = false) : cameE es left = lenL (es.map val) := by
  unfold cameE lenL
  rw [List.filter_eq_self.2 (fun e _ => by rw [h]; rfl), List.map_map]; rfl
theorem came_step {left : Lit → Bool} : ∀ {es : List Ent} {e : Ent}, SrtE es → e ∈ es → left (keyL e.nm) = true → cameE es (struckE left e.nm) = cameE es left + e.bs.length
  | y :: r, e, hs, he, hl => by
    have hs' := hs
    unfold SrtE at hs; rw [List.pairwise_cons] at hs
    unfold cameE
    rw [List.filter_cons, List.filter_cons, struckE_at]
    rcases List.mem_cons.1 he with rfl | he
    · rw [hl]
      have : (r.filter fun x => !struckE left e.nm (keyL x.nm)) = r.filter fun x => !left (keyL x.nm) := by
        apply List.filter_congr
        intro x hx
        rw [struckE_at]
        have : x.nm ≠ e.nm := fun h => by have := hs.1 x hx; rw [h] at this; exact ltB_irrefl _ this
        simp [this]
      simp [this]; omega
    · have hne : y.nm ≠ e.nm := fun h => by have := hs.1 e he; rw [h] at this; exact ltB_irrefl _ this
      have ih := came_step hs.2 he hl
      unfold cameE at ih
      simp only [hne, decide_false, Bool.not_false, Bool.and_true]
      by_cases hy : left (keyL y.nm) = true
      · simp only [hy, Bool.not_true, Bool.false_eq_true, if_false]; exact ih
      · simp only [Bool.not_eq_true] at hy
        simp only [hy, Bool.not_false, if_true, List.map_cons, List.sum_cons]
        omega
theorem came_le (es : List Ent) (left : Lit → Bool) : cameE es left ≤ lenL (es.map val) := by
  unfold cameE
  have := lenL_sub ((List.filter_sublist (p := fun e : Ent => !left (keyL e.nm)) (l := es)).map val)
  refine Nat.le_trans (Nat.le_of_eq ?_) this
  unfold lenL; rw [List.map_map]; rfl
section
set_option maxHeartbeats 1600000
set_option maxRecDepth 100000
variable {w : World} {db mb room : Nat} {es : List Ent}
theorem dsize_any (h : DiskE w db mb room es) : Calls Tryz.prog 53 #[.pointer (some ⟨db, 0, none⟩)] w fun e w' => e = .returned (.int .i64 (lenL (es.map val) : Nat)) ∧ RowKit.Below w.heap.size w w' := by
  have HM := Lib.hid (made_any h.box)
  have HD := Lib.hid h
  have c0 := cell_blk h.box 0; have c1 := cell_blk h.box 1
  simp only [List.getElem?_toArray, List.getElem?_cons_succ, List.getElem?_cons_zero] at c0 c1
  obtain ⟨hf1, hf2, -⟩ := h.fits
  obtain ⟨T, hT⟩ : ∃ T, T = lenL (es.map val) := ⟨_, rfl⟩
  rw [← hT]
  have HT := Lib.hid hT
  clear h hT
  go_enter Tryz.func53, Tryz.ntmps53
  go_wp2_with (first
    | (go_at_call 51; refine HM.out.mono ?_; rintro e w1 ⟨rfl, rfl⟩)
    | (at_range; refine wpList_range_own _ rfl _ 70 rfl 9 89 (string_keyed Tryz.underlying9) Tryz.underlying70 ptrE mb es.length (dmap es) rfl HD.out.map ?_; intro w0 hrg0 hg0 hs0)
    | fail)
  go_frame
  have hst : (0 : Nat) = cameE es (Maps.has (dmap es)) := (came_start es).symm
  have HB0 := Lib.hid (show Below w.heap.size w w0 from (Below.refl _ w).grown hg0 (Nat.le_refl _) (fun k h => by cases h))
  have HR0 := Lib.hid hrg0; have HST := Lib.hid hst
  clear hrg0 hg0 hst
  go_loopw [3] (fun s3 wr => ∃ (left : Lit → Bool) (cnt T0 : Nat), s3 = .int .i64 T0 ∧ Aside (wr.ranges Tryz.prog 9 ptrE mb w.heap.size es.length (dmap es) left cnt) ∧ Aside (T0 = cameE es left) ∧ Aside (Below w.heap.size w wr)) (fun _ wr => wr.rangeLeft mb w.heap.size)
  case atStart => exact ⟨_, _, 0, rfl, HR0.out, HST.out, HB0.out⟩
  case round =>
    obtain ⟨left, cnt, T0, rfl, RG, TE, BW⟩ := hrel
    go_wp2_with (first
      | (at_next; refine wpList_next_ptr rfl _ rfl 9 Tryz.underlying9 mb _ es.length es left cnt rfl RG.out ?_ ?_)
      | fail)
    · intro hl
      have hT0 : T0 = T := by rw [TE.out, came_end hl, HT.out]
      subst hT0
      go_wp2
      go_ret
      exact ⟨rfl, BW.out⟩
    · intro e w1 cnt1 he hle hrg1 hlt hg1 hs1 hen
      have hbw1 : Below w.heap.size w w1 := BW.out.grown hg1 BW.out.size (fun k h => by injection h with h; omega)
      obtain ⟨hb, hv⟩ := (HD.out.below hbw1).at_ e he
      obtain ⟨A, c, e1, hr, hc, hA⟩ := hv.rd
      have d0 := cell_blk hb 0; have d1 := cell_blk hb 1
      simp only [List.getElem?_toArray, List.getElem?_cons_succ, List.getElem?_cons_zero] at d0 d1
      rw [e1] at d0
      have hcs := came_step HD.out.srt he hle
      have hcl := came_le es (struckE left e.nm)
      rw [← TE.out] at hcs
      have HCS := Lib.hid hcs.symm
      have hbd : T0 + e.bs.length ≤ 16777216 := by omega
      have HR1 := Lib.hid hrg1; have HB1 := Lib.hid hbw1; have HLT := Lib.hid hlt
      clear hb hv e1 hr hc hA hcs hcl hrg1 hbw1 hle hlt hg1
      go_wp2_with fail
      go_roundw
      case rel => exact ⟨struckE left e.nm, cnt1, T0 + e.bs.length, by go_num, HR1.out, (show Aside _ from HCS.out), (show Aside _ from HB1.out)⟩
      case measure => rw [HR1.out.left_eq, RG.out.left_eq]; exact HLT.out
end
end Go.Proofs.YtnmbjhpecblioaaGreatDoor
