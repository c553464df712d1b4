/-
  PointsPuts (P9.2): any point that is put to any list comes to what the plain answers say; the list itself is left, with what stands behind it. No condition.
-/
import Derived.Test.YtfohmepjedehfaaPv
import Derived.Test.YtfohmepjedehfaaPt8
import Derived.Test.YtfohmepjedehfaaPt6
import Derived.Test.YtfohmepjedehfaaPt9
namespace Go.Proofs.Ytfohmepjedehfaa
set_option linter.unusedVariables false
set_option linter.unusedSimpArgs false
open Go.ChangeShapes Go.WideShapes Go.ChangeAt Go.RowKit

section
set_option maxHeartbeats 1600000
set_option maxRecDepth 100000
theorem put_bound (l : List Pt) (p : Pt) : (putP l p).1.length ≤ l.length + 1 := by
  have := put_len l p
  unfold putP
  split
  · simp
  · split
    · exact this
    · split
      · simp
      · exact this
theorem rd_blk {w : World} {g : Nat} {l m : List Pt} (h : w.heap[g]? = some (.cells (pcells (l ++ m)).toArray 25 (0, 0))) : Rd w (some ⟨g, 0, none⟩) (pcells l) := by
  intro k v hv
  refine ⟨g, 0, rfl, ?_⟩
  rw [Nat.zero_add, cell_blk h, List.getElem?_toArray, pcells_append, List.getElem?_append_left (List.getElem?_eq_some_iff.1 hv).1, hv]
theorem pointsPuts_walk (A : Option Addr) (c : Nat) (l : List Pt) (p : Pt) (w : World) (hx : Rd w A (pcells l)) (hc : l.length ≤ c) :
    Calls Try.prog 5 #[.slice A l.length c, .agg #[.int .i64 p.1, .int .u64 p.2.1, .int .u64 p.2.2]] w fun e w' => e = .returned (.bool true) ∧ RowKit.Below w.heap.size w w' := by
  obtain ⟨W, hW⟩ : ∃ W, W = w.alloc (.cells (boxPt p) 25) := ⟨_, rfl⟩
  have hbw : RowKit.Below w.heap.size w W := by rw [hW]; exact (RowKit.Below.refl _ w).alloc (Nat.le_refl _) _
  have hbx : PBox W w.heap.size p := by rw [hW]; exact PBox.new w p
  have HX := Lib.hid (hx.below hbw); have HBW := Lib.hid hbw; have HBX := Lib.hid hbx
  unfold boxPt at hW
  have HW := Lib.hid hW; clear hx hbw hbx hW
  have hsW := HBW.out.size
  have HF := Lib.hid (fun w => few_any A c l w)
  have HPUT := Lib.hid (fun A c W' hx hc hl => put_any A c l p W' hx hc hl)
  have HRPUT := Lib.hid (fun A c W' hx hc hl => rput_any A c l p W' hx hc hl)
  have hlen := put_bound l p
  generalize putP l p = R at HPUT HRPUT hlen
  obtain ⟨r1, r2, r3⟩ := R
  simp only at hlen
  obtain ⟨p1, p2, p3⟩ := p
  unfold aggPt at HPUT HRPUT
  simp only at HPUT HRPUT HW ⊢
  by_cases h : l.length ≤ 400
  · rw [decide_eq_true h] at HF
    go_enter Try.func5, Try.ntmps5
    go_wp2_with fail
    rw [← HW.out]
    go_wp2_with (first
      | (go_at_call 9; refine (live_any W).mono ?_; rintro e w1 ⟨rfl, hb1⟩)
      | (go_at_call 10; refine (HF.out _).mono ?_; rintro e w2 ⟨rfl, rfl⟩)
      | fail)
    refine (copied_any A c l _ (HX.out.below hb1) (by omega)).mono ?_
    rintro e w3 ⟨g, rfl, hg3, hgl, hb3⟩
    have HB3 := Lib.hid (hb1.trans (hb3.mono hb1.size))
    have hgW : W.heap.size ≤ g := Nat.le_trans hb1.size hgl
    have HG3 := Lib.hid hg3
    obtain ⟨d0, d1, d2⟩ := (HBX.out.below HB3.out).cells
    simp only at d0 d1 d2
    clear hb1 hb3 hg3 hgl
    go_wp2_with fail
    refine (HPUT.out _ (l.length + 2) _ (rd_blk HG3.out) (by omega) (by omega)).mono ?_
    rintro e w4 ⟨A4, c4, rfl, ho4, hb4⟩
    have HG4 := Lib.hid ((hb4.block _ (blk_lt HG3.out)).trans HG3.out)
    have HB4 := Lib.hid (HB3.out.trans (hb4.mono HB3.out.size))
    have HO4 := Lib.hid ho4
    obtain ⟨e0, e1, e2⟩ := (HBX.out.below HB4.out).cells
    simp only at e0 e1 e2
    clear hb4 ho4 d0 d1 d2 HG3
    go_wp2_with fail
    refine (HRPUT.out A c _ (HX.out.below HB4.out) hc (by omega)).mono ?_
    rintro e w5 ⟨A5, c5, rfl, ho5, hb5⟩
    have HG5 := Lib.hid ((hb5.block _ (blk_lt HG4.out)).trans HG4.out)
    have HB5 := Lib.hid (HB4.out.trans (hb5.mono HB4.out.size))
    have HO5 := Lib.hid ho5; have HO45 := Lib.hid (own_below_pt HO4.out hb5)
    clear hb5 ho5 e0 e1 e2
    have hfr := slice_front (some ⟨g, 0, none⟩) l.length (l.length + 2) (l.length + 1) (by omega)
    rw [show ((l.length + 1 : Nat) : Int) = (l.length : Int) + 1 by omega] at hfr
    have q1 : IntKind.i64.wrap ((l.length : Int) + 1) = (l.length : Int) + 1 := IntWalk.i64_in _ (by omega)
    obtain ⟨X4, k4, E4, R4, L4, -⟩ := own_rd_pt HO45.out
    obtain ⟨X5, k5, E5, R5, L5, -⟩ := own_rd_pt HO5.out
    injection E4 with E4 _ E4'; injection E5 with E5 _ E5'
    subst E4; subst E5; subst E4'; subst E5'
    have HR4 := Lib.hid R4; have HR5 := Lib.hid R5
    clear R4 R5
    by_cases hr1 : r1.length ≤ 100000
    · go_wp2_with fail
      refine (same_any A4 A5 c4 c5 r1 r1 _ HR4.out HR5.out hr1 hr1).mono ?_
      rintro e w6 ⟨rfl, hb6⟩
      rw [decide_eq_true rfl]
      have HG6 := Lib.hid ((hb6.block _ (blk_lt HG5.out)).trans HG5.out)
      have HB6 := Lib.hid (HB5.out.trans (hb6.mono HB5.out.size))
      clear hb6
      go_wp2_with fail
      refine (same_any _ A (l.length + 2) c l l _ (rd_blk HG6.out) (HX.out.below HB6.out) (by omega) (by omega)).mono ?_
      rintro e w7 ⟨rfl, hb7⟩
      rw [decide_eq_true rfl]
      have HG7 := Lib.hid ((hb7.block _ (blk_lt HG6.out)).trans HG6.out)
      have HB7 := Lib.hid (HB6.out.trans (hb7.mono HB6.out.size))
      clear hb7
      obtain ⟨z0, z1, z2⟩ := pcells_at (l ++ [(0, 0, 0), (0, 0, 0)]) l.length (by simp)
      have zc : ∀ (k : Nat) (v : Value), (pcells (l ++ [(0, 0, 0), (0, 0, 0)]))[k]? = some v → w7.cell? ⟨g, k, none⟩ = some v := fun k v hv => by rw [cell_blk HG7.out, List.getElem?_toArray]; exact hv
      have y0 := zc _ _ z0; have y1 := zc _ _ z1; have y2 := zc _ _ z2
      simp only [List.getElem_append_right (Nat.le_refl _), Nat.sub_self, List.getElem_cons_zero] at y0 y1 y2
      clear z0 z1 z2 zc
      have l0 : (0 : Int) ≤ (l.length : Int) := by omega
      have l1 : (l.length : Int) < (l.length : Int) + 1 := by omega
      go_wp2
      go_ret
      exact ⟨rfl, HBW.out.trans (HB7.out.mono hsW)⟩
    · exfalso
      omega
  · rw [decide_eq_false h] at HF
    go_enter Try.func5, Try.ntmps5
    go_wp2_with fail
    rw [← HW.out]
    go_wp2_with (first
      | (go_at_call 9; refine (live_any W).mono ?_; rintro e w1 ⟨rfl, hb1⟩)
      | (go_at_call 10; refine (HF.out _).mono ?_; rintro e w2 ⟨rfl, rfl⟩)
      | fail)
    refine (live_any _).mono ?_
    rintro e w3 ⟨rfl, hb3⟩
    go_wp2
    go_ret
    exact ⟨rfl, HBW.out.trans ((hb1.trans (hb3.mono hb1.size)).mono hsW)⟩
end

set_option maxRecDepth 100000 in
theorem pointsPuts_lifted (os : Os) (started : os.Started) (H : Type) (enc : TypeId × Value → H) :
    ReturnsInHanded {} Try.checked os 5 .any (Rows.pointsPutsSpec.pre6 enc Try.prog Try.f5 Rows.pointsPutsRow.domain false) (Rows.pointsPutsSpec.post enc Try.prog Try.f5 false true false false) := by
  refine returnsInHanded_of_change (C := Try.checked) ownKn started (by kernel_rfl) Try.func5
    (ChangeSpec.witness6 (enc := enc) (C := Try.checked) false ⟨#[], #[.slice none 0 0, .agg #[.int .i64 0, .int .u64 0, .int .u64 0]], []⟩ 8 (by kernel_rfl) (by kernel_rfl) (by kernel_rfl) (by kernel_rfl)) ?_
  intro W base args ds gs before hval0 hW hcnd _
  have hval : ∀ (j : Nat) t v, Try.f5.params[j]? = some t → args[j]? = some v → Value.okWide Try.prog W .any base t v := hval0
  have hW' := hW
  obtain ⟨p, q, hA0, hV, rfl, hfz, hnd⟩ := hW
  have hA : DataW.TrodAll enc Try.prog W 0 (fun _ => true) true Try.f5.params.toList args.toList ds p := hA0
  rw [Try.params5] at hA hval
  obtain ⟨v0, vs0, d0, ds0, p0, q0, hargs, rfl, rfl, h0, r0⟩ := trodAll_cons hA
  obtain ⟨v1, vs1, d1, ds1, p1, q1, rfl, rfl, rfl, h1, r1⟩ := trodAll_cons r0
  obtain ⟨rfl, rfl, rfl⟩ := trodAll_nil r1
  obtain rfl : args = #[v0, v1] := by cases args; simp_all
  obtain ⟨rfl, rfl⟩ := trodVars_none hV
  obtain ⟨A0, c0, l0, rfl, hm0, hx0⟩ := open_points (hval 0 22 v0 rfl rfl) h0
  obtain ⟨x1, rfl⟩ := open_point (hval 1 25 v1 rfl rfl) h1
  clear hA0 hval0 hA
  unfold maxLen at hm0
  refine (pointsPuts_walk A0 c0 l0 x1 W hx0 hm0.1).mono fun e W' ⟨he, hg⟩ => ?_
  subst he
  exact ⟨_, rfl, law_end laidOut (by kernel_rfl) (by kernel_rfl) Try.underlying4 rfl hW' ⟨rfl, rfl, rfl⟩ hg⟩

theorem pointsPuts_holds : Rows.PointsPutsSaid :=
  OpenClaim.holds_of_wide 5 Try.f5 rfl rfl rfl rfl rfl rfl rfl ⟨rfl, rfl, rfl, rfl, rfl⟩ rfl rfl rfl rfl rfl (by kernel_rfl) Try.func5 (by kernel_rfl)
    (of_decide_eq_true (by kernel_rfl)) (by unfold Func.isWrapper; first | (rw [if_pos (by decide +kernel)]; kernel_rfl) | (rw [if_neg (by decide +kernel)]; exact ⟨rfl, rfl⟩))
    (fun os started H enc _ => pointsPuts_lifted os started H enc)
#print axioms pointsPuts_holds

end Go.Proofs.Ytfohmepjedehfaa
