/-
  RexNone (P6.1 to P6.3): a pattern that no call made has no text, no atoms and no values, and matches nothing. No condition.
-/
import Derived.Test.YtjdgoogpjllmlaaLaw
import Derived.Test.YtjdgoogpjllmlaaRl6
import Derived.ChangeMaps5
namespace Go.Proofs.Ytjdgoogpjllmlaa
set_option linter.unusedVariables false
set_option linter.unusedSimpArgs false
open Go.ChangeShapes Go.WideShapes Go.ChangeAt Go.RowKit Go.ChangeMaps

section
set_option maxHeartbeats 1600000
set_option maxRecDepth 100000
def rz : Array Value := #[.bool false, .string ⟨#[]⟩, .slice none 0 0, .int .u64 0, .int .u64 0, .int .u64 0, .int .u64 0, .int .u64 0, .int .u64 0, .int .u64 0, .int .u64 0, .bool false]
theorem rexNone_walk (s : ByteArray) (w : World) : Calls Try.prog 8 #[.string s] w fun e w' => e = .returned (.bool true) ∧ Below w.heap.size w w' := by
  obtain ⟨W, hW⟩ : ∃ W, W = w.alloc (.cells #[.bool false, .string ⟨#[]⟩, .slice none 0 0, .int .u64 0, .int .u64 0, .int .u64 0, .int .u64 0, .int .u64 0, .int .u64 0, .int .u64 0, .int .u64 0, .bool false] 48) := ⟨_, rfl⟩
  have hb : Below w.heap.size w W := by rw [hW]; exact (Below.refl _ w).alloc (Nat.le_refl _) _
  have hz : W.heap[w.heap.size]? = some (.cells rz 48 (0, 0)) := by rw [hW]; exact heap_alloc_new _ _
  have HC := Lib.hid (show ∀ W', Below W.heap.size W W' → W'.cell? ⟨w.heap.size, 0, none⟩ = some (.bool false) ∧ W'.cell? ⟨w.heap.size, 1, none⟩ = some (.string ⟨#[]⟩) ∧ W'.cell? ⟨w.heap.size, 2, none⟩ = some (.slice none 0 0) from fun W' m => by
    have k := (m.block _ (blk_lt hz)).trans hz
    exact ⟨by rw [cell_blk k]; rfl, by rw [cell_blk k]; rfl, by rw [cell_blk k]; rfl⟩)
  have HW := Lib.hid hW; have HB := Lib.hid hb
  clear hW hb hz
  go_enter Try.func8, Try.ntmps8
  go_wp2_with fail
  rw [← HW.out]
  refine (values_nil _).mono ?_
  rintro e w1 ⟨rfl, rfl⟩
  have HV := Lib.hid (values_zero w.heap.size w1 (HC.out w1 (Below.refl _ _)).1)
  go_wp2_with fail
  refine HV.out.mono ?_
  rintro e w2 ⟨rfl, rfl⟩
  have HL := Lib.hid (live_any w2)
  go_wp2_with fail
  refine HL.out.mono ?_
  rintro e w3 ⟨rfl, hb3⟩
  have HC3 := Lib.hid (HC.out w3 hb3)
  have HB3 := Lib.hid (HB.out.trans (hb3.mono HB.out.size))
  clear hb3
  go_wp2_with fail
  refine (match_nil s _).mono ?_
  rintro e w4 ⟨rfl, rfl⟩
  have HM := Lib.hid (match_zero s w.heap.size w4 HC3.out.1)
  go_wp2_with fail
  refine HM.out.mono ?_
  rintro e w5 ⟨rfl, rfl⟩
  have hte : ((⟨#[]⟩ : ByteArray).toList == []) = true := by rw [toList_bl]; rfl
  go_wp2_with fail
  refine (text_nil _).mono ?_
  rintro e w6 ⟨rfl, rfl⟩
  have HT := Lib.hid (text_some w.heap.size _ w6 HC3.out.2.1)
  go_wp2_with fail
  refine HT.out.mono ?_
  rintro e w7 ⟨rfl, rfl⟩
  go_wp2_with fail
  refine (size_nil _).mono ?_
  rintro e w8 ⟨rfl, rfl⟩
  have HS := Lib.hid (size_some w.heap.size 0 0 none w8 HC3.out.2.2)
  go_wp2_with fail
  refine HS.out.mono ?_
  rintro e w9 ⟨rfl, rfl⟩
  go_wp2
  go_ret
  exact ⟨rfl, HB3.out⟩
end

set_option maxRecDepth 100000 in
theorem rexNone_lifted (os : Os) (started : os.Started) (H : Type) (enc : TypeId × Value → H) :
    ReturnsInHanded {} Try.checked os 8 .any (Rows.rexNoneSpec.pre6 enc Try.prog Try.f8 Rows.rexNoneRow.domain false) (Rows.rexNoneSpec.post enc Try.prog Try.f8 false true false false) := by
  refine returnsInHanded_of_change (C := Try.checked) ownKn started (by kernel_rfl) Try.func8
    (ChangeSpec.witness6 (enc := enc) (C := Try.checked) false ⟨#[], #[.string ⟨#[]⟩], []⟩ 8 (by kernel_rfl) (by kernel_rfl) (by kernel_rfl) (by kernel_rfl)) ?_
  intro W base args ds gs before hval0 hW hcnd _
  have hval : ∀ (j : Nat) t v, Try.f8.params[j]? = some t → args[j]? = some v → Value.okWide Try.prog W .any base t v := hval0
  have hW' := hW
  obtain ⟨p, q, hA0, hV, rfl, hfz, hnd⟩ := hW
  have hA : DataW.TrodAll enc Try.prog W 0 (fun _ => true) true Try.f8.params.toList args.toList ds p := hA0
  rw [Try.params8] at hA hval
  obtain ⟨v0, vs0, d0, ds0, p0, q0, hargs, rfl, rfl, h0, r0⟩ := trodAll_cons hA
  obtain ⟨rfl, rfl, rfl⟩ := trodAll_nil r0
  obtain rfl : args = #[v0] := by cases args; simp_all
  obtain ⟨rfl, rfl⟩ := trodVars_none hV
  obtain ⟨s0, rfl, rfl, rfl, ws0⟩ := open_string Try.underlying9 (hval 0 9 v0 rfl rfl) h0
  clear hA0 hval0 hA
  refine (rexNone_walk s0 W).mono fun e W' ⟨he, hg⟩ => ?_
  subst he
  exact ⟨_, rfl, law_end laidOut (by kernel_rfl) (by kernel_rfl) Try.underlying4 rfl hW' ⟨rfl, rfl, rfl⟩ hg⟩

theorem rexNone_holds : Rows.RexNoneSaid :=
  OpenClaim.holds_of_wide 8 Try.f8 rfl rfl rfl rfl rfl rfl rfl ⟨rfl, rfl, rfl, rfl, rfl⟩ rfl rfl rfl rfl rfl (by kernel_rfl) Try.func8 (by kernel_rfl)
    (of_decide_eq_true (by kernel_rfl)) (by unfold Func.isWrapper; first | (rw [if_pos (by decide +kernel)]; kernel_rfl) | (rw [if_neg (by decide +kernel)]; exact ⟨rfl, rfl⟩))
    (fun os started H enc _ => rexNone_lifted os started H enc)
#print axioms rexNone_holds

end Go.Proofs.Ytjdgoogpjllmlaa
