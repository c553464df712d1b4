/-
  DiskNone (P11.1): a disk that no call made answers ErrMade, and tells nothing. No condition.
-/
import Derived.Test.YtinjdlplbficiaaDv
import Derived.Test.YtinjdlplbficiaaDz
import Derived.Test.YtinjdlplbficiaaDop
namespace Go.Proofs.Ytinjdlplbficiaa
set_option linter.unusedVariables false
set_option linter.unusedSimpArgs false
open Go.ChangeShapes Go.WideShapes Go.ChangeAt Go.RowKit
theorem rd_box {w : World} {t : TypeId} {cs : List Value} (W : World) (g : Nat) (h : W.heap[g]? = some (.cells cs.toArray t (0, 0))) {i : Nat} {v : Value} (hv : cs[i]? = some v) : W.cell? ⟨g, i, none⟩ = some v := by
  rw [cell_blk h, List.getElem?_toArray]; exact hv
section
set_option maxHeartbeats 3200000
set_option maxRecDepth 100000
theorem diskNone_walk (o : OpD) (w : World) : Calls Try.prog 8 #[.agg (opV o).toArray] w fun e w' => e = .returned (.bool true) ∧ RowKit.Below w.heap.size w w' := by
  obtain ⟨kd, nm, nt, A, c, bs, n⟩ := o
  obtain ⟨W, hW⟩ : ∃ W, W = ((w.alloc (.cells #[.int .i64 kd, .string nm, .string nt, .slice A bs.length c, .int .i64 n] 47)).alloc (.cells #[.map none, .int .i64 0] 69)).alloc (.cells #[.pointer none, .pointer (some ⟨w.heap.size + 1, 0, none⟩)] 37) := ⟨_, rfl⟩
  have hbw : RowKit.Below w.heap.size w W := by rw [hW]; exact (((RowKit.Below.refl _ w).alloc (Nat.le_refl _) _).alloc (by simp) _).alloc (by simp; omega) _
  have h0 : W.heap[w.heap.size]? = some (.cells #[.int .i64 kd, .string nm, .string nt, .slice A bs.length c, .int .i64 n] 47 (0, 0)) := by
    rw [hW, Below.heap_alloc _ _ _ (by simp; omega), Below.heap_alloc _ _ _ (by simp), heap_alloc_new]
  have h1 : W.heap[w.heap.size + 1]? = some (.cells #[.map none, .int .i64 0] 69 (0, 0)) := by
    rw [hW, Below.heap_alloc _ _ _ (by simp)]
    have := heap_alloc_new (w.alloc (.cells #[.int .i64 kd, .string nm, .string nt, .slice A bs.length c, .int .i64 n] 47)) (.cells #[.map none, .int .i64 0] 69)
    rwa [World.size_alloc] at this
  have h2 : W.heap[w.heap.size + 1 + 1]? = some (.cells #[.pointer none, .pointer (some ⟨w.heap.size + 1, 0, none⟩)] 37 (0, 0)) := by
    rw [hW]
    have := heap_alloc_new ((w.alloc (.cells #[.int .i64 kd, .string nm, .string nt, .slice A bs.length c, .int .i64 n] 47)).alloc (.cells #[.map none, .int .i64 0] 69)) (.cells #[.pointer none, .pointer (some ⟨w.heap.size + 1, 0, none⟩)] 37)
    rwa [World.size_alloc, World.size_alloc] at this
  have c0 := cell_blk h0 0; have c1 := cell_blk h0 1; have c2 := cell_blk h0 2; have c3 := cell_blk h0 3; have c4 := cell_blk h0 4
  have p0 := cell_blk h2 0; have p1 := cell_blk h2 1
  simp only [List.getElem?_toArray, List.getElem?_cons_succ, List.getElem?_cons_zero] at c0 c1 c2 c3 c4 p0 p1
  have HW := Lib.hid hW; have HBW := Lib.hid hbw
  have H1 := Lib.hid (made_zero h1); have H0 := Lib.hid (made_nil W)
  have HU0 : Unmade W none := H0.out
  have HU1 : Unmade W (some ⟨w.heap.size + 1, 0, none⟩) := H1.out
  have U0 := Lib.hid HU0; have U1 := Lib.hid HU1
  clear hW hbw h0 h1 h2 HU0 HU1 H0 H1
  unfold opV
  simp only
  go_enter Try.func8, Try.ntmps8
  go_wp2_with fail
  rw [← HW.out]
  go_loopw [13] (fun s13 wr => ∃ k : Nat, s13 = .int .i64 k ∧ k ≤ 2 ∧ wr = W) (fun s13 _ => 2 - (intOf s13).toNat)
  case atStart => exact ⟨0, rfl, by omega, rfl⟩
  case round =>
    obtain ⟨k, rfl, hk, rfl⟩ := hrel
    rcases (show k = 0 ∨ k = 1 ∨ k = 2 by omega) with rfl | rfl | rfl
    · go_wp2_with (first
        | (go_at_call 26; refine (read_not U0.out nm).mono ?_; rintro e x1 ⟨rfl, rfl⟩)
        | (go_at_call 28; refine (lasts_not U0.out nm).mono ?_; rintro e x1 ⟨rfl, rfl⟩)
        | (go_at_call 31; refine (crash_not U0.out n).mono ?_; rintro e x1 ⟨rfl, rfl⟩)
        | (go_at_call 20; refine (append_not U0.out nm (.slice A bs.length c)).mono ?_; rintro e x1 ⟨rfl, rfl⟩)
        | (go_at_call 21; refine (sync_not U0.out nm).mono ?_; rintro e x1 ⟨rfl, rfl⟩)
        | (go_at_call 35; refine (cut_not U0.out nm n).mono ?_; rintro e x1 ⟨rfl, rfl⟩)
        | (go_at_call 22; refine (remove_not U0.out nm).mono ?_; rintro e x1 ⟨rfl, rfl⟩)
        | (go_at_call 36; refine (swap_not U0.out nm nt).mono ?_; rintro e x1 ⟨rfl, rfl⟩)
        | (go_at_call 30; refine (list_not U0.out ).mono ?_; rintro e x1 ⟨rfl, rfl⟩)
        | (go_at_call 33; refine (size_not U0.out ).mono ?_; rintro e x1 ⟨rfl, rfl⟩)
        | (go_at_call 37; refine (room_not U0.out ).mono ?_; rintro e x1 ⟨rfl, rfl⟩)
        | (go_at_call 19; refine (clone_not U0.out ).mono ?_; rintro e x1 ⟨rfl, rfl⟩)
        | fail)
      go_roundw
      case rel => exact ⟨1, by go_num, by omega, trivial⟩
      case measure => simp [intOf]
    · go_wp2_with (first
        | (go_at_call 26; refine (read_not U1.out nm).mono ?_; rintro e x1 ⟨rfl, rfl⟩)
        | (go_at_call 28; refine (lasts_not U1.out nm).mono ?_; rintro e x1 ⟨rfl, rfl⟩)
        | (go_at_call 31; refine (crash_not U1.out n).mono ?_; rintro e x1 ⟨rfl, rfl⟩)
        | (go_at_call 20; refine (append_not U1.out nm (.slice A bs.length c)).mono ?_; rintro e x1 ⟨rfl, rfl⟩)
        | (go_at_call 21; refine (sync_not U1.out nm).mono ?_; rintro e x1 ⟨rfl, rfl⟩)
        | (go_at_call 35; refine (cut_not U1.out nm n).mono ?_; rintro e x1 ⟨rfl, rfl⟩)
        | (go_at_call 22; refine (remove_not U1.out nm).mono ?_; rintro e x1 ⟨rfl, rfl⟩)
        | (go_at_call 36; refine (swap_not U1.out nm nt).mono ?_; rintro e x1 ⟨rfl, rfl⟩)
        | (go_at_call 30; refine (list_not U1.out ).mono ?_; rintro e x1 ⟨rfl, rfl⟩)
        | (go_at_call 33; refine (size_not U1.out ).mono ?_; rintro e x1 ⟨rfl, rfl⟩)
        | (go_at_call 37; refine (room_not U1.out ).mono ?_; rintro e x1 ⟨rfl, rfl⟩)
        | (go_at_call 19; refine (clone_not U1.out ).mono ?_; rintro e x1 ⟨rfl, rfl⟩)
        | fail)
      go_roundw
      case rel => exact ⟨2, by go_num, by omega, trivial⟩
      case measure => simp [intOf]
    · go_wp2_with fail
      refine (dlive_any _).mono ?_
      rintro e w9 ⟨rfl, hb9⟩
      go_wp2
      go_ret
      exact ⟨rfl, HBW.out.trans (hb9.mono HBW.out.size)⟩
end

set_option maxRecDepth 100000 in
theorem diskNone_lifted (os : Os) (started : os.Started) (H : Type) (enc : TypeId × Value → H) :
    ReturnsInHanded {} Try.checked os 8 .any (Rows.diskNoneSpec.pre6 enc Try.prog Try.f8 Rows.diskNoneRow.domain false) (Rows.diskNoneSpec.post enc Try.prog Try.f8 false true false false) := by
  refine returnsInHanded_of_change (C := Try.checked) ownKn started (by kernel_rfl) Try.func8
    (ChangeSpec.witness6 (enc := enc) (C := Try.checked) false ⟨#[], #[.agg #[.int .i64 0, .string ⟨#[]⟩, .string ⟨#[]⟩, .slice none 0 0, .int .i64 0]], []⟩ 8 (by kernel_rfl) (by kernel_rfl) (by kernel_rfl) (by kernel_rfl)) ?_
  intro W base args ds gs before hval0 hW hcnd _
  have hval : ∀ (j : Nat) t v, Try.f8.params[j]? = some t → args[j]? = some v → Value.okWide Try.prog W .any base t v := hval0
  have hW' := hW
  obtain ⟨p, q, hA0, hV, rfl, hfz, hnd⟩ := hW
  have hA : DataW.TrodAll enc Try.prog W 0 (fun _ => true) true Try.f8.params.toList args.toList ds p := hA0
  rw [Try.params8] at hA hval
  obtain ⟨v0, vs0, d0, ds0, p0, q0, hargs, rfl, rfl, h0, r0⟩ := trodAll_cons hA
  obtain ⟨rfl, rfl, rfl⟩ := trodAll_nil r0
  obtain rfl : args = #[v0] := by cases args; simp_all
  obtain ⟨rfl, rfl⟩ := trodVars_none hV
  obtain ⟨o0, rfl, ho0⟩ := open_op (hval 0 47 v0 rfl rfl) h0
  clear hA0 hval0 hA
  refine (diskNone_walk o0 W).mono fun e W' ⟨he, hg⟩ => ?_
  subst he
  exact ⟨_, rfl, law_end laidOut (by kernel_rfl) (by kernel_rfl) Try.underlying4 rfl hW' ⟨rfl, rfl, rfl⟩ hg⟩

theorem diskNone_holds : Rows.DiskNoneSaid :=
  OpenClaim.holds_of_wide 8 Try.f8 rfl rfl rfl rfl rfl rfl rfl ⟨rfl, rfl, rfl, rfl, rfl⟩ rfl rfl rfl rfl rfl (by kernel_rfl) Try.func8 (by kernel_rfl)
    (of_decide_eq_true (by kernel_rfl)) (by unfold Func.isWrapper; first | (rw [if_pos (by decide +kernel)]; kernel_rfl) | (rw [if_neg (by decide +kernel)]; exact ⟨rfl, rfl⟩))
    (fun os started H enc _ => diskNone_lifted os started H enc)
#print axioms diskNone_holds

end Go.Proofs.Ytinjdlplbficiaa
