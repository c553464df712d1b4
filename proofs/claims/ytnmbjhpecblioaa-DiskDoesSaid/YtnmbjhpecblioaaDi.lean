/-
  A call that the law lets happen to a disk, whatever it is.
-/
import Derived.Test.YtnmbjhpecblioaaDh
import Derived.Test.YtnmbjhpecblioaaDw
namespace Go.Proofs.Ytnmbjhpecblioaa
set_option linter.unusedVariables false
set_option linter.unusedSimpArgs false
open Go.Maps Go.RowKit
section
set_option maxHeartbeats 1600000
set_option maxRecDepth 100000
variable {w : World} {db mb room : Nat} {es : List Ent}
theorem does_sync (h : DiskE w db mb room es) (o : OpD) (ho : OpOk w o) (hk : o.kd = 1) : Calls Try.prog 11 #[.pointer (some ⟨db, 0, none⟩), .agg (opV o).toArray] w (MutOut w db mb room es (syncD (es.map val) o.nm)) := by
  obtain ⟨kd, nm, nt, A, c, bs, n⟩ := o
  simp only at hk ⊢
  subst hk
  obtain ⟨⟨ho1, ho2⟩, ho3, ho4, ho5⟩ := ho
  simp only at ho1 ho2 ho3 ho4 ho5
  obtain ⟨W, hW⟩ : ∃ W, W = w.alloc (.cells #[.int .i64 1, .string nm, .string nt, .slice A bs.length c, .int .i64 n] 35) := ⟨_, rfl⟩
  have hbw : Below w.heap.size w W := by rw [hW]; exact (Below.refl _ w).alloc (Nat.le_refl _) _
  have h0 : W.heap[w.heap.size]? = some (.cells #[.int .i64 1, .string nm, .string nt, .slice A bs.length c, .int .i64 n] 35 (0, 0)) := by rw [hW]; exact heap_alloc_new w _
  have b0 := cell_blk h0 0; have b1 := cell_blk h0 1; have b2 := cell_blk h0 2; have b3 := cell_blk h0 3; have b4 := cell_blk h0 4
  simp only [List.getElem?_toArray, List.getElem?_cons_succ, List.getElem?_cons_zero] at b0 b1 b2 b3 b4
  have HW := Lib.hid hW; have HBW := Lib.hid hbw; have HD := Lib.hid (h.below hbw)
  unfold opV
  clear hW hbw h0 h ho3
  simp only
  go_enter Try.func11, Try.ntmps11
  go_wp2_with fail
  rw [← HW.out]
  go_wp2_with fail
  with_reducible refine (sync_any HD.out nm ho1).mono ?_
  rintro e w2 hM
  obtain ⟨rfl, hM2⟩ := hM
  have HM := Lib.hid hM2; clear hM2
  go_wp2
  go_ret
  exact (show MutOut _ _ _ _ _ _ _ _ from ⟨rfl, HM.out⟩).pre HBW.out
theorem does_cut (h : DiskE w db mb room es) (o : OpD) (ho : OpOk w o) (hk : o.kd = 2) : Calls Try.prog 11 #[.pointer (some ⟨db, 0, none⟩), .agg (opV o).toArray] w (MutOut w db mb room es (cutD (es.map val) o.nm o.n)) := by
  obtain ⟨kd, nm, nt, A, c, bs, n⟩ := o
  simp only at hk ⊢
  subst hk
  obtain ⟨⟨ho1, ho2⟩, ho3, ho4, ho5⟩ := ho
  simp only at ho1 ho2 ho3 ho4 ho5
  obtain ⟨W, hW⟩ : ∃ W, W = w.alloc (.cells #[.int .i64 2, .string nm, .string nt, .slice A bs.length c, .int .i64 n] 35) := ⟨_, rfl⟩
  have hbw : Below w.heap.size w W := by rw [hW]; exact (Below.refl _ w).alloc (Nat.le_refl _) _
  have h0 : W.heap[w.heap.size]? = some (.cells #[.int .i64 2, .string nm, .string nt, .slice A bs.length c, .int .i64 n] 35 (0, 0)) := by rw [hW]; exact heap_alloc_new w _
  have b0 := cell_blk h0 0; have b1 := cell_blk h0 1; have b2 := cell_blk h0 2; have b3 := cell_blk h0 3; have b4 := cell_blk h0 4
  simp only [List.getElem?_toArray, List.getElem?_cons_succ, List.getElem?_cons_zero] at b0 b1 b2 b3 b4
  have HW := Lib.hid hW; have HBW := Lib.hid hbw; have HD := Lib.hid (h.below hbw)
  unfold opV
  clear hW hbw h0 h ho3
  simp only
  go_enter Try.func11, Try.ntmps11
  go_wp2_with fail
  rw [← HW.out]
  go_wp2_with fail
  with_reducible refine (cut_any HD.out nm ho1 n).mono ?_
  rintro e w2 hM
  obtain ⟨rfl, hM2⟩ := hM
  have HM := Lib.hid hM2; clear hM2
  go_wp2
  go_ret
  exact (show MutOut _ _ _ _ _ _ _ _ from ⟨rfl, HM.out⟩).pre HBW.out
theorem does_remove (h : DiskE w db mb room es) (o : OpD) (ho : OpOk w o) (hk : o.kd = 3) : Calls Try.prog 11 #[.pointer (some ⟨db, 0, none⟩), .agg (opV o).toArray] w (MutOut w db mb room es (remD (es.map val) o.nm)) := by
  obtain ⟨kd, nm, nt, A, c, bs, n⟩ := o
  simp only at hk ⊢
  subst hk
  obtain ⟨⟨ho1, ho2⟩, ho3, ho4, ho5⟩ := ho
  simp only at ho1 ho2 ho3 ho4 ho5
  obtain ⟨W, hW⟩ : ∃ W, W = w.alloc (.cells #[.int .i64 3, .string nm, .string nt, .slice A bs.length c, .int .i64 n] 35) := ⟨_, rfl⟩
  have hbw : Below w.heap.size w W := by rw [hW]; exact (Below.refl _ w).alloc (Nat.le_refl _) _
  have h0 : W.heap[w.heap.size]? = some (.cells #[.int .i64 3, .string nm, .string nt, .slice A bs.length c, .int .i64 n] 35 (0, 0)) := by rw [hW]; exact heap_alloc_new w _
  have b0 := cell_blk h0 0; have b1 := cell_blk h0 1; have b2 := cell_blk h0 2; have b3 := cell_blk h0 3; have b4 := cell_blk h0 4
  simp only [List.getElem?_toArray, List.getElem?_cons_succ, List.getElem?_cons_zero] at b0 b1 b2 b3 b4
  have HW := Lib.hid hW; have HBW := Lib.hid hbw; have HD := Lib.hid (h.below hbw)
  unfold opV
  clear hW hbw h0 h ho3
  simp only
  go_enter Try.func11, Try.ntmps11
  go_wp2_with fail
  rw [← HW.out]
  go_wp2_with fail
  with_reducible refine (remove_any HD.out nm ho1).mono ?_
  rintro e w2 hM
  obtain ⟨rfl, hM2⟩ := hM
  have HM := Lib.hid hM2; clear hM2
  go_wp2
  go_ret
  exact (show MutOut _ _ _ _ _ _ _ _ from ⟨rfl, HM.out⟩).pre HBW.out
theorem does_swap (h : DiskE w db mb room es) (o : OpD) (ho : OpOk w o) (hk : o.kd = 4) : Calls Try.prog 11 #[.pointer (some ⟨db, 0, none⟩), .agg (opV o).toArray] w (MutOut w db mb room es (swapD (es.map val) o.nm o.nt)) := by
  obtain ⟨kd, nm, nt, A, c, bs, n⟩ := o
  simp only at hk ⊢
  subst hk
  obtain ⟨⟨ho1, ho2⟩, ho3, ho4, ho5⟩ := ho
  simp only at ho1 ho2 ho3 ho4 ho5
  obtain ⟨W, hW⟩ : ∃ W, W = w.alloc (.cells #[.int .i64 4, .string nm, .string nt, .slice A bs.length c, .int .i64 n] 35) := ⟨_, rfl⟩
  have hbw : Below w.heap.size w W := by rw [hW]; exact (Below.refl _ w).alloc (Nat.le_refl _) _
  have h0 : W.heap[w.heap.size]? = some (.cells #[.int .i64 4, .string nm, .string nt, .slice A bs.length c, .int .i64 n] 35 (0, 0)) := by rw [hW]; exact heap_alloc_new w _
  have b0 := cell_blk h0 0; have b1 := cell_blk h0 1; have b2 := cell_blk h0 2; have b3 := cell_blk h0 3; have b4 := cell_blk h0 4
  simp only [List.getElem?_toArray, List.getElem?_cons_succ, List.getElem?_cons_zero] at b0 b1 b2 b3 b4
  have HW := Lib.hid hW; have HBW := Lib.hid hbw; have HD := Lib.hid (h.below hbw)
  unfold opV
  clear hW hbw h0 h ho3
  simp only
  go_enter Try.func11, Try.ntmps11
  go_wp2_with fail
  rw [← HW.out]
  go_wp2_with fail
  with_reducible refine (swap_any HD.out nm nt ho1).mono ?_
  rintro e w2 hM
  obtain ⟨rfl, hM2⟩ := hM
  have HM := Lib.hid hM2; clear hM2
  go_wp2
  go_ret
  exact (show MutOut _ _ _ _ _ _ _ _ from ⟨rfl, HM.out⟩).pre HBW.out
theorem does_crash (h : DiskE w db mb room es) (o : OpD) (ho : OpOk w o) (hk : o.kd = 5) : Calls Try.prog 11 #[.pointer (some ⟨db, 0, none⟩), .agg (opV o).toArray] w (MutOut w db mb room es (0, crashD o.n (es.map val))) := by
  obtain ⟨kd, nm, nt, A, c, bs, n⟩ := o
  simp only at hk ⊢
  subst hk
  obtain ⟨⟨ho1, ho2⟩, ho3, ho4, ho5⟩ := ho
  simp only at ho1 ho2 ho3 ho4 ho5
  obtain ⟨W, hW⟩ : ∃ W, W = w.alloc (.cells #[.int .i64 5, .string nm, .string nt, .slice A bs.length c, .int .i64 n] 35) := ⟨_, rfl⟩
  have hbw : Below w.heap.size w W := by rw [hW]; exact (Below.refl _ w).alloc (Nat.le_refl _) _
  have h0 : W.heap[w.heap.size]? = some (.cells #[.int .i64 5, .string nm, .string nt, .slice A bs.length c, .int .i64 n] 35 (0, 0)) := by rw [hW]; exact heap_alloc_new w _
  have b0 := cell_blk h0 0; have b1 := cell_blk h0 1; have b2 := cell_blk h0 2; have b3 := cell_blk h0 3; have b4 := cell_blk h0 4
  simp only [List.getElem?_toArray, List.getElem?_cons_succ, List.getElem?_cons_zero] at b0 b1 b2 b3 b4
  have HW := Lib.hid hW; have HBW := Lib.hid hbw; have HD := Lib.hid (h.below hbw)
  unfold opV
  clear hW hbw h0 h ho3
  simp only
  go_enter Try.func11, Try.ntmps11
  go_wp2_with fail
  rw [← HW.out]
  go_wp2_with fail
  with_reducible refine (crash_any HD.out n).mono ?_
  rintro e w2 ⟨rfl, es', h1, h2, h3, h4⟩
  have HM := Lib.hid (And.intro h1 (And.intro h2 (And.intro h3 (fun k hk => Or.inl (b := W.heap.size ≤ k) (h4 k hk)))))
  clear h1 h2 h3 h4
  go_wp2
  go_ret
  exact (show MutOut W db mb room es (0, crashD n (es.map val)) _ w2 from ⟨rfl, es', HM.out⟩).pre HBW.out
theorem does_none (h : DiskE w db mb room es) (o : OpD) (ho : OpOk w o) (hk : o.kd ≠ 0 ∧ o.kd ≠ 1 ∧ o.kd ≠ 2 ∧ o.kd ≠ 3 ∧ o.kd ≠ 4 ∧ o.kd ≠ 5) : Calls Try.prog 11 #[.pointer (some ⟨db, 0, none⟩), .agg (opV o).toArray] w (MutOut w db mb room es (0, es.map val)) := by
  obtain ⟨kd, nm, nt, A, c, bs, n⟩ := o
  simp only at hk ⊢
  obtain ⟨k0, k1, k2, k3, k4, k5⟩ := hk
  obtain ⟨⟨ho1, ho2⟩, ho3, ho4, ho5⟩ := ho
  simp only at ho1 ho2 ho3 ho4 ho5
  obtain ⟨W, hW⟩ : ∃ W, W = w.alloc (.cells #[.int .i64 kd, .string nm, .string nt, .slice A bs.length c, .int .i64 n] 35) := ⟨_, rfl⟩
  have hbw : Below w.heap.size w W := by rw [hW]; exact (Below.refl _ w).alloc (Nat.le_refl _) _
  have h0 : W.heap[w.heap.size]? = some (.cells #[.int .i64 kd, .string nm, .string nt, .slice A bs.length c, .int .i64 n] 35 (0, 0)) := by rw [hW]; exact heap_alloc_new w _
  have b0 := cell_blk h0 0; have b1 := cell_blk h0 1; have b2 := cell_blk h0 2; have b3 := cell_blk h0 3; have b4 := cell_blk h0 4
  simp only [List.getElem?_toArray, List.getElem?_cons_succ, List.getElem?_cons_zero] at b0 b1 b2 b3 b4
  have HW := Lib.hid hW; have HBW := Lib.hid hbw; have HD := Lib.hid (h.below hbw)
  unfold opV
  clear hW hbw h0 h ho3
  simp only
  go_enter Try.func11, Try.ntmps11
  go_wp2_with fail
  rw [← HW.out]
  go_wp2
  go_ret
  exact (MutOut.same HD.out).pre HBW.out
theorem does_any (h : DiskE w db mb room es) (o : OpD) (ho : OpOk w o) (hl : o.bs.length ≤ 100000) : Calls Try.prog 11 #[.pointer (some ⟨db, 0, none⟩), .agg (opV o).toArray] w (MutOut w db mb room es (doD room (es.map val) o)) := by
  unfold doD
  by_cases k0 : o.kd = 0
  · rw [if_pos k0]; exact does_app h o ho hl k0
  by_cases k1 : o.kd = 1
  · rw [if_neg k0, if_pos k1]; exact does_sync h o ho k1
  by_cases k2 : o.kd = 2
  · rw [if_neg k0, if_neg k1, if_pos k2]; exact does_cut h o ho k2
  by_cases k3 : o.kd = 3
  · rw [if_neg k0, if_neg k1, if_neg k2, if_pos k3]; exact does_remove h o ho k3
  by_cases k4 : o.kd = 4
  · rw [if_neg k0, if_neg k1, if_neg k2, if_neg k3, if_pos k4]; exact does_swap h o ho k4
  by_cases k5 : o.kd = 5
  · rw [if_neg k0, if_neg k1, if_neg k2, if_neg k3, if_neg k4, if_pos k5]; exact does_crash h o ho k5
  · rw [if_neg k0, if_neg k1, if_neg k2, if_neg k3, if_neg k4, if_neg k5]; exact does_none h o ho ⟨k0, k1, k2, k3, k4, k5⟩
end
end Go.Proofs.Ytnmbjhpecblioaa
