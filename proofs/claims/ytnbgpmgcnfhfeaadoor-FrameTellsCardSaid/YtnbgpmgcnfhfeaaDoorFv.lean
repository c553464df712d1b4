/-
  The chapter's examples come out as the document says.
-/
import Derived.Test.YtnbgpmgcnfhfeaaDoorFp
import Derived.Test.YtnbgpmgcnfhfeaaDoorFl
import Derived.Lib.SlBytesConst
import Derived.Lib.SmallJoins
import Derived.Laws.BytesArg
namespace Go.Proofs.YtnbgpmgcnfhfeaaDoor
set_option linter.unusedVariables false
set_option linter.unusedSimpArgs false
open Go.RowKit

theorem rd_mark (w : World) (cs : List Value) (t : TypeId) (fr : Nat × Nat) : Rd (w.alloc (.cells cs.toArray t fr)) (some ⟨w.heap.size, 0, none⟩) cs := by
  intro k v hv
  refine ⟨_, 0, rfl, ?_⟩
  rw [World.cell?_alloc_mark]
  simpa using hv
theorem lit_bytes (w : World) (C : Array Value) (n c : Nat) : (convert 23 23 (.slice (some ⟨w.heap.size, 0, none⟩) n c)).run Tryd.prog (w.alloc (.cells C 5)) = .ok (.slice (some ⟨w.heap.size, 0, none⟩) n c) (w.alloc (.cells C 5 (C.size, C.size + 1))) :=
  Lib.run_convert_bytes_const w 23 5 C n c Tryd.underlying23 Tryd.underlying5

theorem lit_bytes_at (w : World) (C : Array Value) (n c g : Nat) (hg : g = w.heap.size) : (convert 23 23 (.slice (some ⟨g, 0, none⟩) n c)).run Tryd.prog (w.alloc (.cells C 5)) = .ok (.slice (some ⟨g, 0, none⟩) n c) (w.alloc (.cells C 5 (C.size, C.size + 1))) := by
  subst hg; exact lit_bytes w C n c
theorem ab_len : (frameF [97, 98]).length = 7 := by
  rw [frameF_length]
  have h : pu ([97, 98] : List UInt8).length = [2] := pu_last (n := 2) (by decide)
  rw [h]; rfl
theorem ab_get : getF (frameF [97, 98]) = ([97, 98], 7, 0) := by
  have h := getF_frame [97, 98] [] (by decide)
  rw [List.append_nil, ab_len] at h
  exact h
theorem nine_sum : crc 0 ([49, 50, 51, 52] ++ [53, 54, 55, 56, 57]) = 3808858755 := by decide +kernel

section
set_option maxHeartbeats 1600000
set_option maxRecDepth 100000
theorem live_any (w : World) (ht : StepsMet w) : Calls Tryd.prog 11 #[] w fun e w' => e = .returned (.bool true) ∧ Below w.heap.size w w' := by
  have HT := Lib.hid ht; clear ht
  have hcv := lit_bytes w #[.int .u8 97, .int .u8 98] 2 2
  go_enter Tryd.func11, Tryd.ntmps11
  go_wp2_with fail
  clear hcv
  have hb0 := (Below.refl _ w).alloc (Nat.le_refl _) (.cells ([97, 98].map Bv).toArray 5 (2, 3))
  refine (fput_any _ 2 [97, 98] _ (HT.out.below hb0) (rd_mark w ([97, 98].map Bv) _ _) (by decide)).mono ?_
  rintro e w1 ⟨v1, rfl, own1, hb1⟩
  have hb1' := hb0.trans (hb1.mono (by simp))
  clear hb1
  obtain ⟨A1, c1, rfl, rd1, -, hc1, hc2⟩ := own_rd own1
  have hfl := ab_len
  have hgf := ab_get
  obtain ⟨fr, hfr⟩ : ∃ fr, fr = frameF [97, 98] := ⟨_, rfl⟩
  rw [← hfr] at rd1 hfl hgf hc1 ⊢
  have HFL := Lib.hid hfl
  have HGF := Lib.hid hgf; clear hgf hfr own1 hb0
  have HT1 := Lib.hid (HT.out.below hb1')
  have hs1 := hb1'.size
  unfold maxLen at hc2
  rw [hfl] at hc1 ⊢
  clear hfl
  go_wp2_with fail
  refine (get_len A1 c1 7 fr w1 HFL.out HT1.out rd1 hc1 (by decide) (by omega)).mono ?_
  rintro e w2 ⟨v2, rfl, own2, hb2⟩
  have hb2' := hb1'.trans (hb2.mono hs1)
  rw [HGF.out] at own2 ⊢
  simp only at own2
  obtain ⟨A2, c2, rfl, rd2, -⟩ := own_rd own2
  have HT2 := Lib.hid (HT.out.below hb2')
  have hs2 := hb2'.size
  clear own2 rd1 hb2 hb1' HT1 HGF hs1
  have rd2' : Rd w2 A2 [.int .u8 97, .int .u8 98] := rd2
  rw [show (Value.tuple #[Value.slice A2 ([97, 98] : List UInt8).length c2, .int .i64 ((7 : Nat) : Int), .int .i64 ((0 : Nat) : Int)]) = .tuple #[.slice A2 2 c2, .int .i64 7, .int .i64 0] from rfl]
  clear rd2
  have hcv1 := lit_bytes w2 #[.int .u8 49, .int .u8 50, .int .u8 51, .int .u8 52] 4 4
  have hcv2 := lit_bytes_at (w2.alloc (.cells #[.int .u8 49, .int .u8 50, .int .u8 51, .int .u8 52] 5 (4, 5))) #[.int .u8 53, .int .u8 54, .int .u8 55, .int .u8 56, .int .u8 57] 5 5 (w2.heap.size + 1) (by simp)
  go_wp2_with fail
  clear hcv1 hcv2
  have r1 := (((rd_mark w2 ([49, 50, 51, 52].map Bv) 5 (4, 5)).alloc (.cells ([53, 54, 55, 56, 57].map Bv).toArray 5 (5, 6))).alloc (.cells #[.slice (some ⟨w2.heap.size, 0, none⟩) 4 4, .slice (some ⟨w2.heap.size + 1, 0, none⟩) 5 5] 23))
  have r2 := ((rd_mark (w2.alloc (.cells ([49, 50, 51, 52].map Bv).toArray 5 (4, 5))) ([53, 54, 55, 56, 57].map Bv) 5 (5, 6)).alloc (.cells #[.slice (some ⟨w2.heap.size, 0, none⟩) 4 4, .slice (some ⟨w2.heap.size + 1, 0, none⟩) 5 5] 23))
  have r3 := rd_row ((w2.alloc (.cells ([49, 50, 51, 52].map Bv).toArray 5 (4, 5))).alloc (.cells ([53, 54, 55, 56, 57].map Bv).toArray 5 (5, 6))) [.slice (some ⟨w2.heap.size, 0, none⟩) 4 4, .slice (some ⟨w2.heap.size + 1, 0, none⟩) 5 5] 23
  rw [World.size_alloc] at r2
  rw [World.size_alloc, World.size_alloc] at r3
  have hb3 := (((Below.refl _ w2).alloc (Nat.le_refl _) (.cells ([49, 50, 51, 52].map Bv).toArray 5 (4, 5))).alloc (by simp) (.cells ([53, 54, 55, 56, 57].map Bv).toArray 5 (5, 6))).alloc (by simp; omega) (.cells #[.slice (some ⟨w2.heap.size, 0, none⟩) 4 4, .slice (some ⟨w2.heap.size + 1, 0, none⟩) 5 5] 23)
  have rd3 := rd2'.below hb3
  have HT3 := Lib.hid (HT2.out.below hb3)
  have hb3' := hb2'.trans (hb3.mono hs2)
  obtain ⟨W3, hW3⟩ : ∃ W3, W3 = (((w2.alloc (.cells ([49, 50, 51, 52].map Bv).toArray 5 (4, 5))).alloc (.cells ([53, 54, 55, 56, 57].map Bv).toArray 5 (5, 6))).alloc (.cells #[.slice (some ⟨w2.heap.size, 0, none⟩) 4 4, .slice (some ⟨w2.heap.size + 1, 0, none⟩) 5 5] 23)) := ⟨_, rfl⟩
  refine Calls.mono (R := fun e w' => e = .returned (.int .u32 3808858755) ∧ W3 = w') ?_ ?_
  · have h := sum_any W3 (some ⟨w2.heap.size + 1 + 1, 0, none⟩) 2 [(some ⟨w2.heap.size, 0, none⟩, 4, [49, 50, 51, 52]), (some ⟨w2.heap.size + 1, 0, none⟩, 5, [53, 54, 55, 56, 57])] (by rw [hW3]; exact r3) (by
      intro p hp
      simp only [List.mem_cons, List.not_mem_nil, or_false] at hp
      rcases hp with rfl | rfl
      · rw [hW3]; exact r1
      · rw [hW3]; exact r2) (by rw [hW3]; exact HT3.out) (by simp [joined]) (by simp)
    rw [hW3] at h ⊢
    rw [show joined [(some (⟨w2.heap.size, 0, none⟩ : Addr), 4, [49, 50, 51, 52]), (some ⟨w2.heap.size + 1, 0, none⟩, 5, [53, 54, 55, 56, 57])] = [49, 50, 51, 52] ++ [53, 54, 55, 56, 57] from by simp [joined], nine_sum] at h
    exact h
  rw [← hW3] at rd3 hb3'
  have HT4 := Lib.hid (show StepsMet W3 by rw [hW3]; exact HT3.out)
  clear r1 r2 r3 hb3 HT3 hW3 HT2 rd2' hb2' hs2
  rintro e W3' ⟨rfl, rfl⟩
  obtain ⟨A2b, off2, rfl, p0⟩ := rd3 0 _ rfl
  have p1 : W3.cell? ⟨A2b, off2 + 1, none⟩ = some (.int .u8 98) := by
    obtain ⟨b', o', e', p1⟩ := rd3 1 _ rfl
    injection e' with e'; injection e' with e1 e2; subst e1 e2; exact p1
  have hcs := run_convert_bytes_arg (P := Tryd.prog) W3 23 5 Tryd.underlying23 Tryd.underlying5 A2b off2 2 c2 [97, 98] rfl (fun i hi => by
    have : i = 0 ∨ i = 1 := by omega
    rcases this with rfl | rfl
    · exact p0
    · exact p1) 9 Tryd.underlying9
  have hb3s := hb3'.size
  have hst : (strOfNums [97, 98]).toList = [97, 98] := by rw [Lib.toList_data]; rfl
  go_wp2_with fail
  have hz5 : sizeF 0 = 5 := by
    unfold sizeF
    rw [if_neg (by decide)]
    have h : pu (Int.toNat 0) = [0] := pu_last (n := 0) (by decide)
    rw [h]; rfl
  refine (size_any 0 W3).mono ?_
  rintro e w4 ⟨rfl, hb4⟩
  rw [hz5]
  clear hz5
  go_wp2
  go_ret
  exact ⟨rfl, hb3'.trans (hb4.mono hb3s)⟩
end
end Go.Proofs.YtnbgpmgcnfhfeaaDoor
