/-
  A call that the law lets happen to the plain answers' disk, whatever it is.
-/
import Derived.Test.YtnmbjhpecblioaaDh
import Derived.Test.YtnmbjhpecblioaaZfg
import Derived.Test.YtnmbjhpecblioaaZfh
import Derived.Test.YtnmbjhpecblioaaZfi
import Derived.Test.YtnmbjhpecblioaaZfj
namespace Go.Proofs.Ytnmbjhpecblioaa
set_option linter.unusedVariables false
set_option linter.unusedSimpArgs false
open Go.RowKit
section
variable {w w1 w' : World} {p room : Nat} {fv : Value} {ys : List RF} {r : Int × List Fl} {e : Ending}
theorem RefOut2.pre (h : RefOut2 w1 p room fv ys r e w') (hb : Below w.heap.size w w1) : RefOut2 w p room fv ys r e w' := by
  obtain ⟨h1, ys', fv', h2, h3, h4, h5⟩ := h
  refine ⟨h1, ys', fv', h2, h3, (Mv.of_below hb _).trans h4 (fun _ _ hk => hk), fun k hk => ?_⟩
  rcases h5 k hk with h | h
  · exact .inl h
  · exact .inr (Nat.le_trans hb.size h)
theorem RefOut2.same (h : RefE w p room fv ys) : RefOut2 w p room fv ys (0, ys.map rval) (.returned (.int .i64 0)) w := ⟨rfl, ys, fv, rfl, h, Mv.refl _ _, fun k hk => .inl hk⟩
end
section
set_option maxHeartbeats 1600000
set_option maxRecDepth 100000
variable {w : World} {p room : Nat} {fv : Value} {ys : List RF}
theorem want_app (h : RefE w p room fv ys) (o : OpD) (ho : OpOk w o) (hl : o.bs.length ≤ 100000) (hp : (ys.map rval).Pairwise fun a b => bl a.1 < bl b.1) (hk : o.kd = 0) : Calls Try.prog 12 #[.pointer (some ⟨p, 0, none⟩), .agg (opV o).toArray] w (RefOut2 w p room fv ys (appD room (ys.map rval) o.nm o.bs)) := by
  obtain ⟨kd, nm, nt, A, c, bs, n⟩ := o
  simp only at hk hl ⊢
  subst hk
  obtain ⟨⟨ho1, ho2⟩, ho3, ho4, ho5⟩ := ho
  simp only at ho1 ho2 ho3 ho4 ho5
  obtain ⟨W, hW⟩ : ∃ W, W = w.alloc (.cells #[.int .i64 0, .string nm, .string nt, .slice A bs.length c, .int .i64 n] 35) := ⟨_, rfl⟩
  have hbw : Below w.heap.size w W := by rw [hW]; exact (Below.refl _ w).alloc (Nat.le_refl _) _
  have h0 : W.heap[w.heap.size]? = some (.cells #[.int .i64 0, .string nm, .string nt, .slice A bs.length c, .int .i64 n] 35 (0, 0)) := by rw [hW]; exact heap_alloc_new w _
  have b0 := cell_blk h0 0; have b1 := cell_blk h0 1; have b2 := cell_blk h0 2; have b3 := cell_blk h0 3; have b4 := cell_blk h0 4
  simp only [List.getElem?_toArray, List.getElem?_cons_succ, List.getElem?_cons_zero] at b0 b1 b2 b3 b4
  have HW := Lib.hid hW; have HBW := Lib.hid hbw; have HD := Lib.hid (h.below hbw); have HP := Lib.hid hp; have HR := Lib.hid (ho3.below hbw)
  unfold opV
  clear hW hbw h0 h ho3 hp
  simp only
  go_enter Try.func12, Try.ntmps12
  go_wp2_with fail
  rw [← HW.out]
  go_wp2_with fail
  with_reducible refine (rappend_any HD.out nm ho1 A c bs HR.out hl HP.out).mono ?_
  rintro e w2 hM
  obtain ⟨rfl, hM2⟩ := hM
  have HM := Lib.hid hM2; clear hM2
  go_wp2
  go_ret
  exact (show RefOut2 _ _ _ _ _ _ _ _ from ⟨rfl, HM.out⟩).pre HBW.out
theorem want_sync (h : RefE w p room fv ys) (o : OpD) (ho : OpOk w o) (hl : o.bs.length ≤ 100000) (hp : (ys.map rval).Pairwise fun a b => bl a.1 < bl b.1) (hk : o.kd = 1) : Calls Try.prog 12 #[.pointer (some ⟨p, 0, none⟩), .agg (opV o).toArray] w (RefOut2 w p room fv ys (syncD (ys.map rval) o.nm)) := by
  obtain ⟨kd, nm, nt, A, c, bs, n⟩ := o
  simp only at hk hl ⊢
  subst hk
  obtain ⟨⟨ho1, ho2⟩, ho3, ho4, ho5⟩ := ho
  simp only at ho1 ho2 ho3 ho4 ho5
  obtain ⟨W, hW⟩ : ∃ W, W = w.alloc (.cells #[.int .i64 1, .string nm, .string nt, .slice A bs.length c, .int .i64 n] 35) := ⟨_, rfl⟩
  have hbw : Below w.heap.size w W := by rw [hW]; exact (Below.refl _ w).alloc (Nat.le_refl _) _
  have h0 : W.heap[w.heap.size]? = some (.cells #[.int .i64 1, .string nm, .string nt, .slice A bs.length c, .int .i64 n] 35 (0, 0)) := by rw [hW]; exact heap_alloc_new w _
  have b0 := cell_blk h0 0; have b1 := cell_blk h0 1; have b2 := cell_blk h0 2; have b3 := cell_blk h0 3; have b4 := cell_blk h0 4
  simp only [List.getElem?_toArray, List.getElem?_cons_succ, List.getElem?_cons_zero] at b0 b1 b2 b3 b4
  have HW := Lib.hid hW; have HBW := Lib.hid hbw; have HD := Lib.hid (h.below hbw); have HP := Lib.hid hp; have HR := Lib.hid (ho3.below hbw)
  unfold opV
  clear hW hbw h0 h ho3 hp
  simp only
  go_enter Try.func12, Try.ntmps12
  go_wp2_with fail
  rw [← HW.out]
  go_wp2_with fail
  with_reducible refine (rsync_any HD.out nm HP.out).mono ?_
  rintro e w2 hM
  obtain ⟨rfl, hM2⟩ := hM
  have HM := Lib.hid hM2; clear hM2
  go_wp2
  go_ret
  exact (show RefOut2 _ _ _ _ _ _ _ _ from ⟨rfl, HM.out⟩).pre HBW.out
theorem want_cut (h : RefE w p room fv ys) (o : OpD) (ho : OpOk w o) (hl : o.bs.length ≤ 100000) (hp : (ys.map rval).Pairwise fun a b => bl a.1 < bl b.1) (hk : o.kd = 2) : Calls Try.prog 12 #[.pointer (some ⟨p, 0, none⟩), .agg (opV o).toArray] w (RefOut2 w p room fv ys (cutD (ys.map rval) o.nm o.n)) := by
  obtain ⟨kd, nm, nt, A, c, bs, n⟩ := o
  simp only at hk hl ⊢
  subst hk
  obtain ⟨⟨ho1, ho2⟩, ho3, ho4, ho5⟩ := ho
  simp only at ho1 ho2 ho3 ho4 ho5
  obtain ⟨W, hW⟩ : ∃ W, W = w.alloc (.cells #[.int .i64 2, .string nm, .string nt, .slice A bs.length c, .int .i64 n] 35) := ⟨_, rfl⟩
  have hbw : Below w.heap.size w W := by rw [hW]; exact (Below.refl _ w).alloc (Nat.le_refl _) _
  have h0 : W.heap[w.heap.size]? = some (.cells #[.int .i64 2, .string nm, .string nt, .slice A bs.length c, .int .i64 n] 35 (0, 0)) := by rw [hW]; exact heap_alloc_new w _
  have b0 := cell_blk h0 0; have b1 := cell_blk h0 1; have b2 := cell_blk h0 2; have b3 := cell_blk h0 3; have b4 := cell_blk h0 4
  simp only [List.getElem?_toArray, List.getElem?_cons_succ, List.getElem?_cons_zero] at b0 b1 b2 b3 b4
  have HW := Lib.hid hW; have HBW := Lib.hid hbw; have HD := Lib.hid (h.below hbw); have HP := Lib.hid hp; have HR := Lib.hid (ho3.below hbw)
  unfold opV
  clear hW hbw h0 h ho3 hp
  simp only
  go_enter Try.func12, Try.ntmps12
  go_wp2_with fail
  rw [← HW.out]
  go_wp2_with fail
  with_reducible refine (rcut_any HD.out nm n HP.out).mono ?_
  rintro e w2 hM
  obtain ⟨rfl, hM2⟩ := hM
  have HM := Lib.hid hM2; clear hM2
  go_wp2
  go_ret
  exact (show RefOut2 _ _ _ _ _ _ _ _ from ⟨rfl, HM.out⟩).pre HBW.out
theorem want_remove (h : RefE w p room fv ys) (o : OpD) (ho : OpOk w o) (hl : o.bs.length ≤ 100000) (hp : (ys.map rval).Pairwise fun a b => bl a.1 < bl b.1) (hk : o.kd = 3) : Calls Try.prog 12 #[.pointer (some ⟨p, 0, none⟩), .agg (opV o).toArray] w (RefOut2 w p room fv ys (remD (ys.map rval) o.nm)) := by
  obtain ⟨kd, nm, nt, A, c, bs, n⟩ := o
  simp only at hk hl ⊢
  subst hk
  obtain ⟨⟨ho1, ho2⟩, ho3, ho4, ho5⟩ := ho
  simp only at ho1 ho2 ho3 ho4 ho5
  obtain ⟨W, hW⟩ : ∃ W, W = w.alloc (.cells #[.int .i64 3, .string nm, .string nt, .slice A bs.length c, .int .i64 n] 35) := ⟨_, rfl⟩
  have hbw : Below w.heap.size w W := by rw [hW]; exact (Below.refl _ w).alloc (Nat.le_refl _) _
  have h0 : W.heap[w.heap.size]? = some (.cells #[.int .i64 3, .string nm, .string nt, .slice A bs.length c, .int .i64 n] 35 (0, 0)) := by rw [hW]; exact heap_alloc_new w _
  have b0 := cell_blk h0 0; have b1 := cell_blk h0 1; have b2 := cell_blk h0 2; have b3 := cell_blk h0 3; have b4 := cell_blk h0 4
  simp only [List.getElem?_toArray, List.getElem?_cons_succ, List.getElem?_cons_zero] at b0 b1 b2 b3 b4
  have HW := Lib.hid hW; have HBW := Lib.hid hbw; have HD := Lib.hid (h.below hbw); have HP := Lib.hid hp; have HR := Lib.hid (ho3.below hbw)
  unfold opV
  clear hW hbw h0 h ho3 hp
  simp only
  go_enter Try.func12, Try.ntmps12
  go_wp2_with fail
  rw [← HW.out]
  go_wp2_with fail
  with_reducible refine (rremove_any HD.out nm HP.out).mono ?_
  rintro e w2 ⟨rfl, ys', h1, h2⟩
  have HM := Lib.hid (h2.weak (r := remD (ys.map rval) nm) (fun k hk => hk.elim) rfl h1)
  clear h1 h2
  go_wp2
  go_ret
  exact HM.out.pre HBW.out
theorem want_swap (h : RefE w p room fv ys) (o : OpD) (ho : OpOk w o) (hl : o.bs.length ≤ 100000) (hp : (ys.map rval).Pairwise fun a b => bl a.1 < bl b.1) (hk : o.kd = 4) : Calls Try.prog 12 #[.pointer (some ⟨p, 0, none⟩), .agg (opV o).toArray] w (RefOut2 w p room fv ys (swapD (ys.map rval) o.nm o.nt)) := by
  obtain ⟨kd, nm, nt, A, c, bs, n⟩ := o
  simp only at hk hl ⊢
  subst hk
  obtain ⟨⟨ho1, ho2⟩, ho3, ho4, ho5⟩ := ho
  simp only at ho1 ho2 ho3 ho4 ho5
  obtain ⟨W, hW⟩ : ∃ W, W = w.alloc (.cells #[.int .i64 4, .string nm, .string nt, .slice A bs.length c, .int .i64 n] 35) := ⟨_, rfl⟩
  have hbw : Below w.heap.size w W := by rw [hW]; exact (Below.refl _ w).alloc (Nat.le_refl _) _
  have h0 : W.heap[w.heap.size]? = some (.cells #[.int .i64 4, .string nm, .string nt, .slice A bs.length c, .int .i64 n] 35 (0, 0)) := by rw [hW]; exact heap_alloc_new w _
  have b0 := cell_blk h0 0; have b1 := cell_blk h0 1; have b2 := cell_blk h0 2; have b3 := cell_blk h0 3; have b4 := cell_blk h0 4
  simp only [List.getElem?_toArray, List.getElem?_cons_succ, List.getElem?_cons_zero] at b0 b1 b2 b3 b4
  have HW := Lib.hid hW; have HBW := Lib.hid hbw; have HD := Lib.hid (h.below hbw); have HP := Lib.hid hp; have HR := Lib.hid (ho3.below hbw)
  unfold opV
  clear hW hbw h0 h ho3 hp
  simp only
  go_enter Try.func12, Try.ntmps12
  go_wp2_with fail
  rw [← HW.out]
  go_wp2_with fail
  with_reducible refine (rswap_any HD.out nm nt ho2 HP.out).mono ?_
  rintro e w2 hM
  obtain ⟨rfl, hM2⟩ := hM
  have HM := Lib.hid hM2; clear hM2
  go_wp2
  go_ret
  exact (show RefOut2 _ _ _ _ _ _ _ _ from ⟨rfl, HM.out⟩).pre HBW.out
theorem want_crash (h : RefE w p room fv ys) (o : OpD) (ho : OpOk w o) (hl : o.bs.length ≤ 100000) (hp : (ys.map rval).Pairwise fun a b => bl a.1 < bl b.1) (hk : o.kd = 5) : Calls Try.prog 12 #[.pointer (some ⟨p, 0, none⟩), .agg (opV o).toArray] w (RefOut2 w p room fv ys (0, crashD o.n (ys.map rval))) := by
  obtain ⟨kd, nm, nt, A, c, bs, n⟩ := o
  simp only at hk hl ⊢
  subst hk
  obtain ⟨⟨ho1, ho2⟩, ho3, ho4, ho5⟩ := ho
  simp only at ho1 ho2 ho3 ho4 ho5
  obtain ⟨W, hW⟩ : ∃ W, W = w.alloc (.cells #[.int .i64 5, .string nm, .string nt, .slice A bs.length c, .int .i64 n] 35) := ⟨_, rfl⟩
  have hbw : Below w.heap.size w W := by rw [hW]; exact (Below.refl _ w).alloc (Nat.le_refl _) _
  have h0 : W.heap[w.heap.size]? = some (.cells #[.int .i64 5, .string nm, .string nt, .slice A bs.length c, .int .i64 n] 35 (0, 0)) := by rw [hW]; exact heap_alloc_new w _
  have b0 := cell_blk h0 0; have b1 := cell_blk h0 1; have b2 := cell_blk h0 2; have b3 := cell_blk h0 3; have b4 := cell_blk h0 4
  simp only [List.getElem?_toArray, List.getElem?_cons_succ, List.getElem?_cons_zero] at b0 b1 b2 b3 b4
  have HW := Lib.hid hW; have HBW := Lib.hid hbw; have HD := Lib.hid (h.below hbw); have HP := Lib.hid hp; have HR := Lib.hid (ho3.below hbw)
  unfold opV
  clear hW hbw h0 h ho3 hp
  simp only
  go_enter Try.func12, Try.ntmps12
  go_wp2_with fail
  rw [← HW.out]
  go_wp2_with fail
  with_reducible refine (rcrash_any HD.out n).mono ?_
  rintro e w2 ⟨rfl, ys', h1, h2⟩
  have HM := Lib.hid (h2.weak (r := (0, crashD n (ys.map rval))) (e := .returned (.int .i64 0)) (fun k hk => hk.elim) rfl h1)
  clear h1 h2
  go_wp2
  go_ret
  exact HM.out.pre HBW.out
theorem want_none (h : RefE w p room fv ys) (o : OpD) (ho : OpOk w o) (hl : o.bs.length ≤ 100000) (hp : (ys.map rval).Pairwise fun a b => bl a.1 < bl b.1) (hk : o.kd ≠ 0 ∧ o.kd ≠ 1 ∧ o.kd ≠ 2 ∧ o.kd ≠ 3 ∧ o.kd ≠ 4 ∧ o.kd ≠ 5) : Calls Try.prog 12 #[.pointer (some ⟨p, 0, none⟩), .agg (opV o).toArray] w (RefOut2 w p room fv ys (0, ys.map rval)) := by
  obtain ⟨kd, nm, nt, A, c, bs, n⟩ := o
  simp only at hk hl ⊢
  obtain ⟨k0, k1, k2, k3, k4, k5⟩ := hk
  obtain ⟨⟨ho1, ho2⟩, ho3, ho4, ho5⟩ := ho
  simp only at ho1 ho2 ho3 ho4 ho5
  obtain ⟨W, hW⟩ : ∃ W, W = w.alloc (.cells #[.int .i64 kd, .string nm, .string nt, .slice A bs.length c, .int .i64 n] 35) := ⟨_, rfl⟩
  have hbw : Below w.heap.size w W := by rw [hW]; exact (Below.refl _ w).alloc (Nat.le_refl _) _
  have h0 : W.heap[w.heap.size]? = some (.cells #[.int .i64 kd, .string nm, .string nt, .slice A bs.length c, .int .i64 n] 35 (0, 0)) := by rw [hW]; exact heap_alloc_new w _
  have b0 := cell_blk h0 0; have b1 := cell_blk h0 1; have b2 := cell_blk h0 2; have b3 := cell_blk h0 3; have b4 := cell_blk h0 4
  simp only [List.getElem?_toArray, List.getElem?_cons_succ, List.getElem?_cons_zero] at b0 b1 b2 b3 b4
  have HW := Lib.hid hW; have HBW := Lib.hid hbw; have HD := Lib.hid (h.below hbw); have HP := Lib.hid hp; have HR := Lib.hid (ho3.below hbw)
  unfold opV
  clear hW hbw h0 h ho3 hp
  simp only
  go_enter Try.func12, Try.ntmps12
  go_wp2_with fail
  rw [← HW.out]
  go_wp2
  go_ret
  exact (RefOut2.same HD.out).pre HBW.out
theorem want_any (h : RefE w p room fv ys) (o : OpD) (ho : OpOk w o) (hl : o.bs.length ≤ 100000) (hp : (ys.map rval).Pairwise fun a b => bl a.1 < bl b.1) : Calls Try.prog 12 #[.pointer (some ⟨p, 0, none⟩), .agg (opV o).toArray] w (RefOut2 w p room fv ys (doD room (ys.map rval) o)) := by
  unfold doD
  by_cases k0 : o.kd = 0
  · rw [if_pos k0]; exact want_app h o ho hl hp k0
  by_cases k1 : o.kd = 1
  · rw [if_neg k0, if_pos k1]; exact want_sync h o ho hl hp k1
  by_cases k2 : o.kd = 2
  · rw [if_neg k0, if_neg k1, if_pos k2]; exact want_cut h o ho hl hp k2
  by_cases k3 : o.kd = 3
  · rw [if_neg k0, if_neg k1, if_neg k2, if_pos k3]; exact want_remove h o ho hl hp k3
  by_cases k4 : o.kd = 4
  · rw [if_neg k0, if_neg k1, if_neg k2, if_neg k3, if_pos k4]; exact want_swap h o ho hl hp k4
  by_cases k5 : o.kd = 5
  · rw [if_neg k0, if_neg k1, if_neg k2, if_neg k3, if_neg k4, if_pos k5]; exact want_crash h o ho hl hp k5
  · rw [if_neg k0, if_neg k1, if_neg k2, if_neg k3, if_neg k4, if_neg k5]; exact want_none h o ho hl hp ⟨k0, k1, k2, k3, k4, k5⟩
end
end Go.Proofs.Ytnmbjhpecblioaa
