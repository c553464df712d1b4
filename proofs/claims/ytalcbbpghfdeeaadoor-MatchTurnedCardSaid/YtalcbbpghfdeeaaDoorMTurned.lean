/-
  MatchTurned (P7.5): of a sign and its contrary just one lets a value pass. The condition is the library's two tables': they hold what their initialisers lay, which the card ties to the program's text.
-/
import Derived.Test.YtalcbbpghfdeeaaDoorMlw
import Derived.Test.YtalcbbpghfdeeaaDoorMn
namespace Go.Proofs.YtalcbbpghfdeeaaDoor
set_option linter.unusedVariables false
set_option linter.unusedSimpArgs false
open Go.ChangeMaps (open_string)
open Go.ChangeShapes Go.WideShapes Go.ChangeAt Go.RowKit
section
set_option maxHeartbeats 3200000
set_option maxRecDepth 100000
theorem contrary_check {k k' : Int} {n v : ByteArray} (h : checkM (k, n, v) = 0) (hk : (k = 1 ∧ k' = 2) ∨ (k = 2 ∧ k' = 1) ∨ (k = 3 ∧ k' = 4) ∨ (k = 4 ∧ k' = 3)) : checkM (k', n, v) = 0 := by
  unfold checkM at h ⊢
  simp only at h ⊢
  rcases hk with ⟨rfl, rfl⟩ | ⟨rfl, rfl⟩ | ⟨rfl, rfl⟩ | ⟨rfl, rfl⟩ <;> exact h
theorem contrary_one {k k' : Int} {n v : ByteArray} (x : ByteArray) (h : checkM (k, n, v) = 0) (hk : (k = 1 ∧ k' = 2) ∨ (k = 2 ∧ k' = 1) ∨ (k = 3 ∧ k' = 4) ∨ (k = 4 ∧ k' = 3)) : oneM (k', n, v) x = !oneM (k, n, v) x := by
  unfold oneM
  rw [contrary_check h hk, h]
  unfold passM
  rcases hk with ⟨rfl, rfl⟩ | ⟨rfl, rfl⟩ | ⟨rfl, rfl⟩ | ⟨rfl, rfl⟩ <;> simp
theorem mturned_1 (n v : ByteArray) (x : ByteArray) (w : World) (hT : Tabs w) (hf : fewL [((1 : Int), n, v)] = true) (hx : x.size ≤ 200) (hc : checkM (1, n, v) = 0) :
    Calls Tryd.prog 5 #[.agg #[.int .i64 1, .string n, .string v], .string x] w fun e w' => e = .returned (.bool true) ∧ RowKit.Below w.heap.size w w' := by
  obtain ⟨W, hW⟩ : ∃ W, W = w.alloc (.cells #[.int .i64 1, .string n, .string v] 40) := ⟨_, rfl⟩
  have hbw : RowKit.Below w.heap.size w W := by rw [hW]; exact (RowKit.Below.refl _ w).alloc (Nat.le_refl _) _
  have hgm : W.heap[w.heap.size]? = some (.cells #[.int .i64 1, .string n, .string v] 40 (0, 0)) := by rw [hW]; exact heap_alloc_new w _
  have HCM := Lib.hid (fun (W' : World) (hb : RowKit.Below W.heap.size W W') => show W'.cell? ⟨w.heap.size, 0, none⟩ = some (.int .i64 1) ∧ W'.cell? ⟨w.heap.size, 1, none⟩ = some (.string n) ∧ W'.cell? ⟨w.heap.size, 2, none⟩ = some (.string v) from by
    have h := (hb.block _ (blk_lt hgm)).trans hgm
    have e0 := cell_blk h 0; have e1 := cell_blk h 1; have e2 := cell_blk h 2
    simp only [List.getElem?_toArray, List.getElem?_cons_zero, List.getElem?_cons_succ] at e0 e1 e2
    exact ⟨e0, e1, e2⟩)
  have HLV := Lib.hid (fun (W' : World) (hb : RowKit.Below W.heap.size W W') => mlive_any W' ((hT.below hbw).below hb))
  have HFW := Lib.hid (fun (W' : World) => show Calls Tryd.prog 17 #[.slice (some ⟨W'.heap.size, 0, none⟩) 1 1] (W'.alloc (.cells #[.int .i64 1, .string n, .string v] 40)) fun e w' => e = .returned (.bool (fewL [((1 : Int), n, v)])) ∧ RowKit.Below W'.heap.size W' w' from
    (mfew_any (some ⟨W'.heap.size, 0, none⟩) 1 [((1 : Int), n, v)] _ (rd_row' W' (mcells [((1 : Int), n, v)]) 40)).mono fun _ _ h => ⟨h.1, ((RowKit.Below.refl _ W').alloc (Nat.le_refl _) _).trans (h.2.mono (by simp))⟩)
  have HCK := Lib.hid (fun (hv : v.size ≤ 1000000) (k0 : Int) (W' : World) (hb : RowKit.Below W.heap.size W W') => show Calls Tryd.prog 22 #[.agg #[.int .i64 k0, .string n, .string v]] W' _ from mcheck_any (k0, n, v) W' ((hT.below hbw).below hb) hv)
  have HON := Lib.hid (fun (hv : v.size ≤ 1000000) (k0 : Int) (W' : World) (hb : RowKit.Below W.heap.size W W') => show Calls Tryd.prog 23 #[.agg #[.int .i64 k0, .string n, .string v], .string x] W' _ from mone_any (k0, n, v) x W' ((hT.below hbw).below hb) hv)
  have HBW := Lib.hid hbw; have HW := Lib.hid hW
  clear hbw hW hT hgm
  have hv : v.size ≤ 1000000 := by have := ((fewL_of hf).2 ((1 : Int), n, v) (by simp)).2; simp only at this; omega
  have hx2 : ¬ (200 : Int) < (x.size : Int) := by omega
  have hck := fun (W' : World) (hb : RowKit.Below W.heap.size W W') => HCK.out hv 1 W' hb
  rw [hc] at hck
  have HCK1 := Lib.hid hck; clear hck
  rw [hf] at HFW
  have hcc := contrary_check (k' := 2) hc (by omega)
  have hco := contrary_one (k' := 2) x hc (by omega)
  have HCC := Lib.hid hcc; have HCO := Lib.hid hco
  clear hcc hco hc hf hx
  obtain ⟨p0, p1, p2⟩ := HCM.out W (RowKit.Below.refl _ _)
  go_enter Tryd.func5, Tryd.ntmps5
  go_wp2_with fail
  rw [← HW.out]
  refine (HLV.out W (RowKit.Below.refl _ _)).mono ?_
  rintro e w1 ⟨rfl, hb1⟩
  have HB1 := Lib.hid hb1; clear hb1 p0 p1 p2
  obtain ⟨p0, p1, p2⟩ := HCM.out w1 HB1.out
  go_wp2_with fail
  refine (HFW.out w1).mono ?_
  rintro e w2 ⟨rfl, hb2⟩
  have HB2 := Lib.hid (HB1.out.trans (hb2.mono HB1.out.size)); clear hb2 p0 p1 p2
  obtain ⟨p0, p1, p2⟩ := HCM.out w2 HB2.out
  go_wp2_with fail
  refine (HCK1.out w2 HB2.out).mono ?_
  rintro e w3 ⟨rfl, hb3⟩
  have HB3 := Lib.hid (HB2.out.trans (hb3.mono HB2.out.size)); clear hb3 p0 p1 p2
  obtain ⟨p0, p1, p2⟩ := HCM.out w3 HB3.out
  have hc' := HCC.out
  have ho' := HCO.out
  obtain ⟨W2, hW2⟩ : ∃ W2, W2 = w3.alloc (.cells #[.int .i64 2, .string n, .string v] 40) := ⟨_, rfl⟩
  have hbw2 : RowKit.Below W.heap.size W W2 := by rw [hW2]; exact HB3.out.alloc HB3.out.size _
  have hgo : W2.heap[w3.heap.size]? = some (.cells #[.int .i64 2, .string n, .string v] 40 (0, 0)) := by rw [hW2]; exact heap_alloc_new w3 _
  have HS := Lib.hid (fun (W' : World) (hb : RowKit.Below W2.heap.size W2 W') => show (W'.cell? ⟨w.heap.size, 0, none⟩ = some (.int .i64 1) ∧ W'.cell? ⟨w.heap.size, 1, none⟩ = some (.string n) ∧ W'.cell? ⟨w.heap.size, 2, none⟩ = some (.string v)) ∧ (W'.cell? ⟨w3.heap.size, 0, none⟩ = some (.int .i64 2) ∧ W'.cell? ⟨w3.heap.size, 1, none⟩ = some (.string n) ∧ W'.cell? ⟨w3.heap.size, 2, none⟩ = some (.string v)) from by
  refine ⟨HCM.out W' (hbw2.trans (hb.mono hbw2.size)), ?_⟩
  have h := (hb.block _ (blk_lt hgo)).trans hgo
  have e0 := cell_blk h 0; have e1 := cell_blk h 1; have e2 := cell_blk h 2
  simp only [List.getElem?_toArray, List.getElem?_cons_zero, List.getElem?_cons_succ] at e0 e1 e2
  exact ⟨e0, e1, e2⟩)
  have hck' := fun (W' : World) (hb : RowKit.Below W2.heap.size W2 W') => HCK.out hv 2 W' (hbw2.trans (hb.mono hbw2.size))
  rw [hc'] at hck'
  have h1' := fun (W' : World) (hb : RowKit.Below W2.heap.size W2 W') => HON.out hv 1 W' (hbw2.trans (hb.mono hbw2.size))
  have h2' := fun (W' : World) (hb : RowKit.Below W2.heap.size W2 W') => HON.out hv 2 W' (hbw2.trans (hb.mono hbw2.size))
  rw [ho'] at h2'
  generalize oneM (1, n, v) x = O at h1' h2'
  have HCK2 := Lib.hid hck'; have HO1 := Lib.hid h1'; have HO2 := Lib.hid h2'; have HW2 := Lib.hid hW2; have HBW2 := Lib.hid hbw2
  have HBc := Lib.hid (RowKit.Below.refl W2.heap.size W2)
  clear hck' h1' h2' hW2 hbw2 hgo hc' ho'
  obtain ⟨q0, q1, q2⟩ := HCM.out (w3.alloc (.cells #[.int .i64 1, .string n, .string v] 40)) (HB3.out.alloc HB3.out.size _)
  go_wp2_with fail
  rw [← HW2.out]
  go_region_held3 (fun W' => (W'.cell? ⟨w.heap.size, 0, none⟩ = some (.int .i64 1) ∧ W'.cell? ⟨w.heap.size, 1, none⟩ = some (.string n) ∧ W'.cell? ⟨w.heap.size, 2, none⟩ = some (.string v)) ∧ (W'.cell? ⟨w3.heap.size, 0, none⟩ = some (.int .i64 2) ∧ W'.cell? ⟨w3.heap.size, 1, none⟩ = some (.string n) ∧ W'.cell? ⟨w3.heap.size, 2, none⟩ = some (.string v))) (first | exact HS.out _ HBc.out | exact HS.out _ (below_drewN HBc.out _)) (first
    | (go_at_call 22; go_must (refine (HCK2.out _ (by first | exact HBc.out | exact below_drewN HBc.out _)).mono ?_; rintro e wq ⟨rfl, hbq⟩; (try (have hq1 := undrewM hbq; clear hbq; have hbq := hq1; clear hq1)); have hq1 := HBc.out.trans (hbq.mono HBc.out.size); have HBc := Lib.hid hq1; clear hq1 hbq))
    | (go_at_call 23; go_must ((first | with_reducible refine (HO1.out _ (by first | exact HBc.out | exact below_drewN HBc.out _)).mono ?_ | with_reducible refine (HO2.out _ (by first | exact HBc.out | exact below_drewN HBc.out _)).mono ?_); rintro e wq ⟨rfl, hbq⟩; (try (have hq1 := undrewM hbq; clear hbq; have hbq := hq1; clear hq1)); have hq1 := HBc.out.trans (hbq.mono HBc.out.size); have HBc := Lib.hid hq1; clear hq1 hbq))
    | fail)
  all_goals
    go_wp2
    go_ret
    exact ⟨by cases O <;> rfl, by first | exact HBW.out.trans ((HBW2.out.trans (HBc.out.mono HBW2.out.size)).mono HBW.out.size) | exact below_drewN (HBW.out.trans ((HBW2.out.trans (HBc.out.mono HBW2.out.size)).mono HBW.out.size)) _⟩
theorem mturned_2 (n v : ByteArray) (x : ByteArray) (w : World) (hT : Tabs w) (hf : fewL [((2 : Int), n, v)] = true) (hx : x.size ≤ 200) (hc : checkM (2, n, v) = 0) :
    Calls Tryd.prog 5 #[.agg #[.int .i64 2, .string n, .string v], .string x] w fun e w' => e = .returned (.bool true) ∧ RowKit.Below w.heap.size w w' := by
  obtain ⟨W, hW⟩ : ∃ W, W = w.alloc (.cells #[.int .i64 2, .string n, .string v] 40) := ⟨_, rfl⟩
  have hbw : RowKit.Below w.heap.size w W := by rw [hW]; exact (RowKit.Below.refl _ w).alloc (Nat.le_refl _) _
  have hgm : W.heap[w.heap.size]? = some (.cells #[.int .i64 2, .string n, .string v] 40 (0, 0)) := by rw [hW]; exact heap_alloc_new w _
  have HCM := Lib.hid (fun (W' : World) (hb : RowKit.Below W.heap.size W W') => show W'.cell? ⟨w.heap.size, 0, none⟩ = some (.int .i64 2) ∧ W'.cell? ⟨w.heap.size, 1, none⟩ = some (.string n) ∧ W'.cell? ⟨w.heap.size, 2, none⟩ = some (.string v) from by
    have h := (hb.block _ (blk_lt hgm)).trans hgm
    have e0 := cell_blk h 0; have e1 := cell_blk h 1; have e2 := cell_blk h 2
    simp only [List.getElem?_toArray, List.getElem?_cons_zero, List.getElem?_cons_succ] at e0 e1 e2
    exact ⟨e0, e1, e2⟩)
  have HLV := Lib.hid (fun (W' : World) (hb : RowKit.Below W.heap.size W W') => mlive_any W' ((hT.below hbw).below hb))
  have HFW := Lib.hid (fun (W' : World) => show Calls Tryd.prog 17 #[.slice (some ⟨W'.heap.size, 0, none⟩) 1 1] (W'.alloc (.cells #[.int .i64 2, .string n, .string v] 40)) fun e w' => e = .returned (.bool (fewL [((2 : Int), n, v)])) ∧ RowKit.Below W'.heap.size W' w' from
    (mfew_any (some ⟨W'.heap.size, 0, none⟩) 1 [((2 : Int), n, v)] _ (rd_row' W' (mcells [((2 : Int), n, v)]) 40)).mono fun _ _ h => ⟨h.1, ((RowKit.Below.refl _ W').alloc (Nat.le_refl _) _).trans (h.2.mono (by simp))⟩)
  have HCK := Lib.hid (fun (hv : v.size ≤ 1000000) (k0 : Int) (W' : World) (hb : RowKit.Below W.heap.size W W') => show Calls Tryd.prog 22 #[.agg #[.int .i64 k0, .string n, .string v]] W' _ from mcheck_any (k0, n, v) W' ((hT.below hbw).below hb) hv)
  have HON := Lib.hid (fun (hv : v.size ≤ 1000000) (k0 : Int) (W' : World) (hb : RowKit.Below W.heap.size W W') => show Calls Tryd.prog 23 #[.agg #[.int .i64 k0, .string n, .string v], .string x] W' _ from mone_any (k0, n, v) x W' ((hT.below hbw).below hb) hv)
  have HBW := Lib.hid hbw; have HW := Lib.hid hW
  clear hbw hW hT hgm
  have hv : v.size ≤ 1000000 := by have := ((fewL_of hf).2 ((2 : Int), n, v) (by simp)).2; simp only at this; omega
  have hx2 : ¬ (200 : Int) < (x.size : Int) := by omega
  have hck := fun (W' : World) (hb : RowKit.Below W.heap.size W W') => HCK.out hv 2 W' hb
  rw [hc] at hck
  have HCK1 := Lib.hid hck; clear hck
  rw [hf] at HFW
  have hcc := contrary_check (k' := 1) hc (by omega)
  have hco := contrary_one (k' := 1) x hc (by omega)
  have HCC := Lib.hid hcc; have HCO := Lib.hid hco
  clear hcc hco hc hf hx
  obtain ⟨p0, p1, p2⟩ := HCM.out W (RowKit.Below.refl _ _)
  go_enter Tryd.func5, Tryd.ntmps5
  go_wp2_with fail
  rw [← HW.out]
  refine (HLV.out W (RowKit.Below.refl _ _)).mono ?_
  rintro e w1 ⟨rfl, hb1⟩
  have HB1 := Lib.hid hb1; clear hb1 p0 p1 p2
  obtain ⟨p0, p1, p2⟩ := HCM.out w1 HB1.out
  go_wp2_with fail
  refine (HFW.out w1).mono ?_
  rintro e w2 ⟨rfl, hb2⟩
  have HB2 := Lib.hid (HB1.out.trans (hb2.mono HB1.out.size)); clear hb2 p0 p1 p2
  obtain ⟨p0, p1, p2⟩ := HCM.out w2 HB2.out
  go_wp2_with fail
  refine (HCK1.out w2 HB2.out).mono ?_
  rintro e w3 ⟨rfl, hb3⟩
  have HB3 := Lib.hid (HB2.out.trans (hb3.mono HB2.out.size)); clear hb3 p0 p1 p2
  obtain ⟨p0, p1, p2⟩ := HCM.out w3 HB3.out
  have hc' := HCC.out
  have ho' := HCO.out
  obtain ⟨W2, hW2⟩ : ∃ W2, W2 = w3.alloc (.cells #[.int .i64 1, .string n, .string v] 40) := ⟨_, rfl⟩
  have hbw2 : RowKit.Below W.heap.size W W2 := by rw [hW2]; exact HB3.out.alloc HB3.out.size _
  have hgo : W2.heap[w3.heap.size]? = some (.cells #[.int .i64 1, .string n, .string v] 40 (0, 0)) := by rw [hW2]; exact heap_alloc_new w3 _
  have HS := Lib.hid (fun (W' : World) (hb : RowKit.Below W2.heap.size W2 W') => show (W'.cell? ⟨w.heap.size, 0, none⟩ = some (.int .i64 2) ∧ W'.cell? ⟨w.heap.size, 1, none⟩ = some (.string n) ∧ W'.cell? ⟨w.heap.size, 2, none⟩ = some (.string v)) ∧ (W'.cell? ⟨w3.heap.size, 0, none⟩ = some (.int .i64 1) ∧ W'.cell? ⟨w3.heap.size, 1, none⟩ = some (.string n) ∧ W'.cell? ⟨w3.heap.size, 2, none⟩ = some (.string v)) from by
  refine ⟨HCM.out W' (hbw2.trans (hb.mono hbw2.size)), ?_⟩
  have h := (hb.block _ (blk_lt hgo)).trans hgo
  have e0 := cell_blk h 0; have e1 := cell_blk h 1; have e2 := cell_blk h 2
  simp only [List.getElem?_toArray, List.getElem?_cons_zero, List.getElem?_cons_succ] at e0 e1 e2
  exact ⟨e0, e1, e2⟩)
  have hck' := fun (W' : World) (hb : RowKit.Below W2.heap.size W2 W') => HCK.out hv 1 W' (hbw2.trans (hb.mono hbw2.size))
  rw [hc'] at hck'
  have h1' := fun (W' : World) (hb : RowKit.Below W2.heap.size W2 W') => HON.out hv 2 W' (hbw2.trans (hb.mono hbw2.size))
  have h2' := fun (W' : World) (hb : RowKit.Below W2.heap.size W2 W') => HON.out hv 1 W' (hbw2.trans (hb.mono hbw2.size))
  rw [ho'] at h2'
  generalize oneM (2, n, v) x = O at h1' h2'
  have HCK2 := Lib.hid hck'; have HO1 := Lib.hid h1'; have HO2 := Lib.hid h2'; have HW2 := Lib.hid hW2; have HBW2 := Lib.hid hbw2
  have HBc := Lib.hid (RowKit.Below.refl W2.heap.size W2)
  clear hck' h1' h2' hW2 hbw2 hgo hc' ho'
  obtain ⟨q0, q1, q2⟩ := HCM.out (w3.alloc (.cells #[.int .i64 2, .string n, .string v] 40)) (HB3.out.alloc HB3.out.size _)
  go_wp2_with fail
  rw [← HW2.out]
  go_region_held3 (fun W' => (W'.cell? ⟨w.heap.size, 0, none⟩ = some (.int .i64 2) ∧ W'.cell? ⟨w.heap.size, 1, none⟩ = some (.string n) ∧ W'.cell? ⟨w.heap.size, 2, none⟩ = some (.string v)) ∧ (W'.cell? ⟨w3.heap.size, 0, none⟩ = some (.int .i64 1) ∧ W'.cell? ⟨w3.heap.size, 1, none⟩ = some (.string n) ∧ W'.cell? ⟨w3.heap.size, 2, none⟩ = some (.string v))) (first | exact HS.out _ HBc.out | exact HS.out _ (below_drewN HBc.out _)) (first
    | (go_at_call 22; go_must (refine (HCK2.out _ (by first | exact HBc.out | exact below_drewN HBc.out _)).mono ?_; rintro e wq ⟨rfl, hbq⟩; (try (have hq1 := undrewM hbq; clear hbq; have hbq := hq1; clear hq1)); have hq1 := HBc.out.trans (hbq.mono HBc.out.size); have HBc := Lib.hid hq1; clear hq1 hbq))
    | (go_at_call 23; go_must ((first | with_reducible refine (HO1.out _ (by first | exact HBc.out | exact below_drewN HBc.out _)).mono ?_ | with_reducible refine (HO2.out _ (by first | exact HBc.out | exact below_drewN HBc.out _)).mono ?_); rintro e wq ⟨rfl, hbq⟩; (try (have hq1 := undrewM hbq; clear hbq; have hbq := hq1; clear hq1)); have hq1 := HBc.out.trans (hbq.mono HBc.out.size); have HBc := Lib.hid hq1; clear hq1 hbq))
    | fail)
  all_goals
    go_wp2
    go_ret
    exact ⟨by cases O <;> rfl, by first | exact HBW.out.trans ((HBW2.out.trans (HBc.out.mono HBW2.out.size)).mono HBW.out.size) | exact below_drewN (HBW.out.trans ((HBW2.out.trans (HBc.out.mono HBW2.out.size)).mono HBW.out.size)) _⟩
theorem mturned_3 (n v : ByteArray) (x : ByteArray) (w : World) (hT : Tabs w) (hf : fewL [((3 : Int), n, v)] = true) (hx : x.size ≤ 200) (hc : checkM (3, n, v) = 0) :
    Calls Tryd.prog 5 #[.agg #[.int .i64 3, .string n, .string v], .string x] w fun e w' => e = .returned (.bool true) ∧ RowKit.Below w.heap.size w w' := by
  obtain ⟨W, hW⟩ : ∃ W, W = w.alloc (.cells #[.int .i64 3, .string n, .string v] 40) := ⟨_, rfl⟩
  have hbw : RowKit.Below w.heap.size w W := by rw [hW]; exact (RowKit.Below.refl _ w).alloc (Nat.le_refl _) _
  have hgm : W.heap[w.heap.size]? = some (.cells #[.int .i64 3, .string n, .string v] 40 (0, 0)) := by rw [hW]; exact heap_alloc_new w _
  have HCM := Lib.hid (fun (W' : World) (hb : RowKit.Below W.heap.size W W') => show W'.cell? ⟨w.heap.size, 0, none⟩ = some (.int .i64 3) ∧ W'.cell? ⟨w.heap.size, 1, none⟩ = some (.string n) ∧ W'.cell? ⟨w.heap.size, 2, none⟩ = some (.string v) from by
    have h := (hb.block _ (blk_lt hgm)).trans hgm
    have e0 := cell_blk h 0; have e1 := cell_blk h 1; have e2 := cell_blk h 2
    simp only [List.getElem?_toArray, List.getElem?_cons_zero, List.getElem?_cons_succ] at e0 e1 e2
    exact ⟨e0, e1, e2⟩)
  have HLV := Lib.hid (fun (W' : World) (hb : RowKit.Below W.heap.size W W') => mlive_any W' ((hT.below hbw).below hb))
  have HFW := Lib.hid (fun (W' : World) => show Calls Tryd.prog 17 #[.slice (some ⟨W'.heap.size, 0, none⟩) 1 1] (W'.alloc (.cells #[.int .i64 3, .string n, .string v] 40)) fun e w' => e = .returned (.bool (fewL [((3 : Int), n, v)])) ∧ RowKit.Below W'.heap.size W' w' from
    (mfew_any (some ⟨W'.heap.size, 0, none⟩) 1 [((3 : Int), n, v)] _ (rd_row' W' (mcells [((3 : Int), n, v)]) 40)).mono fun _ _ h => ⟨h.1, ((RowKit.Below.refl _ W').alloc (Nat.le_refl _) _).trans (h.2.mono (by simp))⟩)
  have HCK := Lib.hid (fun (hv : v.size ≤ 1000000) (k0 : Int) (W' : World) (hb : RowKit.Below W.heap.size W W') => show Calls Tryd.prog 22 #[.agg #[.int .i64 k0, .string n, .string v]] W' _ from mcheck_any (k0, n, v) W' ((hT.below hbw).below hb) hv)
  have HON := Lib.hid (fun (hv : v.size ≤ 1000000) (k0 : Int) (W' : World) (hb : RowKit.Below W.heap.size W W') => show Calls Tryd.prog 23 #[.agg #[.int .i64 k0, .string n, .string v], .string x] W' _ from mone_any (k0, n, v) x W' ((hT.below hbw).below hb) hv)
  have HBW := Lib.hid hbw; have HW := Lib.hid hW
  clear hbw hW hT hgm
  have hv : v.size ≤ 1000000 := by have := ((fewL_of hf).2 ((3 : Int), n, v) (by simp)).2; simp only at this; omega
  have hx2 : ¬ (200 : Int) < (x.size : Int) := by omega
  have hck := fun (W' : World) (hb : RowKit.Below W.heap.size W W') => HCK.out hv 3 W' hb
  rw [hc] at hck
  have HCK1 := Lib.hid hck; clear hck
  rw [hf] at HFW
  have hcc := contrary_check (k' := 4) hc (by omega)
  have hco := contrary_one (k' := 4) x hc (by omega)
  have HCC := Lib.hid hcc; have HCO := Lib.hid hco
  clear hcc hco hc hf hx
  obtain ⟨p0, p1, p2⟩ := HCM.out W (RowKit.Below.refl _ _)
  go_enter Tryd.func5, Tryd.ntmps5
  go_wp2_with fail
  rw [← HW.out]
  refine (HLV.out W (RowKit.Below.refl _ _)).mono ?_
  rintro e w1 ⟨rfl, hb1⟩
  have HB1 := Lib.hid hb1; clear hb1 p0 p1 p2
  obtain ⟨p0, p1, p2⟩ := HCM.out w1 HB1.out
  go_wp2_with fail
  refine (HFW.out w1).mono ?_
  rintro e w2 ⟨rfl, hb2⟩
  have HB2 := Lib.hid (HB1.out.trans (hb2.mono HB1.out.size)); clear hb2 p0 p1 p2
  obtain ⟨p0, p1, p2⟩ := HCM.out w2 HB2.out
  go_wp2_with fail
  refine (HCK1.out w2 HB2.out).mono ?_
  rintro e w3 ⟨rfl, hb3⟩
  have HB3 := Lib.hid (HB2.out.trans (hb3.mono HB2.out.size)); clear hb3 p0 p1 p2
  obtain ⟨p0, p1, p2⟩ := HCM.out w3 HB3.out
  have hc' := HCC.out
  have ho' := HCO.out
  obtain ⟨W2, hW2⟩ : ∃ W2, W2 = w3.alloc (.cells #[.int .i64 4, .string n, .string v] 40) := ⟨_, rfl⟩
  have hbw2 : RowKit.Below W.heap.size W W2 := by rw [hW2]; exact HB3.out.alloc HB3.out.size _
  have hgo : W2.heap[w3.heap.size]? = some (.cells #[.int .i64 4, .string n, .string v] 40 (0, 0)) := by rw [hW2]; exact heap_alloc_new w3 _
  have HS := Lib.hid (fun (W' : World) (hb : RowKit.Below W2.heap.size W2 W') => show (W'.cell? ⟨w.heap.size, 0, none⟩ = some (.int .i64 3) ∧ W'.cell? ⟨w.heap.size, 1, none⟩ = some (.string n) ∧ W'.cell? ⟨w.heap.size, 2, none⟩ = some (.string v)) ∧ (W'.cell? ⟨w3.heap.size, 0, none⟩ = some (.int .i64 4) ∧ W'.cell? ⟨w3.heap.size, 1, none⟩ = some (.string n) ∧ W'.cell? ⟨w3.heap.size, 2, none⟩ = some (.string v)) from by
  refine ⟨HCM.out W' (hbw2.trans (hb.mono hbw2.size)), ?_⟩
  have h := (hb.block _ (blk_lt hgo)).trans hgo
  have e0 := cell_blk h 0; have e1 := cell_blk h 1; have e2 := cell_blk h 2
  simp only [List.getElem?_toArray, List.getElem?_cons_zero, List.getElem?_cons_succ] at e0 e1 e2
  exact ⟨e0, e1, e2⟩)
  have hck' := fun (W' : World) (hb : RowKit.Below W2.heap.size W2 W') => HCK.out hv 4 W' (hbw2.trans (hb.mono hbw2.size))
  rw [hc'] at hck'
  have h1' := fun (W' : World) (hb : RowKit.Below W2.heap.size W2 W') => HON.out hv 3 W' (hbw2.trans (hb.mono hbw2.size))
  have h2' := fun (W' : World) (hb : RowKit.Below W2.heap.size W2 W') => HON.out hv 4 W' (hbw2.trans (hb.mono hbw2.size))
  rw [ho'] at h2'
  generalize oneM (3, n, v) x = O at h1' h2'
  have HCK2 := Lib.hid hck'; have HO1 := Lib.hid h1'; have HO2 := Lib.hid h2'; have HW2 := Lib.hid hW2; have HBW2 := Lib.hid hbw2
  have HBc := Lib.hid (RowKit.Below.refl W2.heap.size W2)
  clear hck' h1' h2' hW2 hbw2 hgo hc' ho'
  obtain ⟨q0, q1, q2⟩ := HCM.out (w3.alloc (.cells #[.int .i64 3, .string n, .string v] 40)) (HB3.out.alloc HB3.out.size _)
  go_wp2_with fail
  rw [← HW2.out]
  go_region_held3 (fun W' => (W'.cell? ⟨w.heap.size, 0, none⟩ = some (.int .i64 3) ∧ W'.cell? ⟨w.heap.size, 1, none⟩ = some (.string n) ∧ W'.cell? ⟨w.heap.size, 2, none⟩ = some (.string v)) ∧ (W'.cell? ⟨w3.heap.size, 0, none⟩ = some (.int .i64 4) ∧ W'.cell? ⟨w3.heap.size, 1, none⟩ = some (.string n) ∧ W'.cell? ⟨w3.heap.size, 2, none⟩ = some (.string v))) (first | exact HS.out _ HBc.out | exact HS.out _ (below_drewN HBc.out _)) (first
    | (go_at_call 22; go_must (refine (HCK2.out _ (by first | exact HBc.out | exact below_drewN HBc.out _)).mono ?_; rintro e wq ⟨rfl, hbq⟩; (try (have hq1 := undrewM hbq; clear hbq; have hbq := hq1; clear hq1)); have hq1 := HBc.out.trans (hbq.mono HBc.out.size); have HBc := Lib.hid hq1; clear hq1 hbq))
    | (go_at_call 23; go_must ((first | with_reducible refine (HO1.out _ (by first | exact HBc.out | exact below_drewN HBc.out _)).mono ?_ | with_reducible refine (HO2.out _ (by first | exact HBc.out | exact below_drewN HBc.out _)).mono ?_); rintro e wq ⟨rfl, hbq⟩; (try (have hq1 := undrewM hbq; clear hbq; have hbq := hq1; clear hq1)); have hq1 := HBc.out.trans (hbq.mono HBc.out.size); have HBc := Lib.hid hq1; clear hq1 hbq))
    | fail)
  all_goals
    go_wp2
    go_ret
    exact ⟨by cases O <;> rfl, by first | exact HBW.out.trans ((HBW2.out.trans (HBc.out.mono HBW2.out.size)).mono HBW.out.size) | exact below_drewN (HBW.out.trans ((HBW2.out.trans (HBc.out.mono HBW2.out.size)).mono HBW.out.size)) _⟩
theorem mturned_4 (n v : ByteArray) (x : ByteArray) (w : World) (hT : Tabs w) (hf : fewL [((4 : Int), n, v)] = true) (hx : x.size ≤ 200) (hc : checkM (4, n, v) = 0) :
    Calls Tryd.prog 5 #[.agg #[.int .i64 4, .string n, .string v], .string x] w fun e w' => e = .returned (.bool true) ∧ RowKit.Below w.heap.size w w' := by
  obtain ⟨W, hW⟩ : ∃ W, W = w.alloc (.cells #[.int .i64 4, .string n, .string v] 40) := ⟨_, rfl⟩
  have hbw : RowKit.Below w.heap.size w W := by rw [hW]; exact (RowKit.Below.refl _ w).alloc (Nat.le_refl _) _
  have hgm : W.heap[w.heap.size]? = some (.cells #[.int .i64 4, .string n, .string v] 40 (0, 0)) := by rw [hW]; exact heap_alloc_new w _
  have HCM := Lib.hid (fun (W' : World) (hb : RowKit.Below W.heap.size W W') => show W'.cell? ⟨w.heap.size, 0, none⟩ = some (.int .i64 4) ∧ W'.cell? ⟨w.heap.size, 1, none⟩ = some (.string n) ∧ W'.cell? ⟨w.heap.size, 2, none⟩ = some (.string v) from by
    have h := (hb.block _ (blk_lt hgm)).trans hgm
    have e0 := cell_blk h 0; have e1 := cell_blk h 1; have e2 := cell_blk h 2
    simp only [List.getElem?_toArray, List.getElem?_cons_zero, List.getElem?_cons_succ] at e0 e1 e2
    exact ⟨e0, e1, e2⟩)
  have HLV := Lib.hid (fun (W' : World) (hb : RowKit.Below W.heap.size W W') => mlive_any W' ((hT.below hbw).below hb))
  have HFW := Lib.hid (fun (W' : World) => show Calls Tryd.prog 17 #[.slice (some ⟨W'.heap.size, 0, none⟩) 1 1] (W'.alloc (.cells #[.int .i64 4, .string n, .string v] 40)) fun e w' => e = .returned (.bool (fewL [((4 : Int), n, v)])) ∧ RowKit.Below W'.heap.size W' w' from
    (mfew_any (some ⟨W'.heap.size, 0, none⟩) 1 [((4 : Int), n, v)] _ (rd_row' W' (mcells [((4 : Int), n, v)]) 40)).mono fun _ _ h => ⟨h.1, ((RowKit.Below.refl _ W').alloc (Nat.le_refl _) _).trans (h.2.mono (by simp))⟩)
  have HCK := Lib.hid (fun (hv : v.size ≤ 1000000) (k0 : Int) (W' : World) (hb : RowKit.Below W.heap.size W W') => show Calls Tryd.prog 22 #[.agg #[.int .i64 k0, .string n, .string v]] W' _ from mcheck_any (k0, n, v) W' ((hT.below hbw).below hb) hv)
  have HON := Lib.hid (fun (hv : v.size ≤ 1000000) (k0 : Int) (W' : World) (hb : RowKit.Below W.heap.size W W') => show Calls Tryd.prog 23 #[.agg #[.int .i64 k0, .string n, .string v], .string x] W' _ from mone_any (k0, n, v) x W' ((hT.below hbw).below hb) hv)
  have HBW := Lib.hid hbw; have HW := Lib.hid hW
  clear hbw hW hT hgm
  have hv : v.size ≤ 1000000 := by have := ((fewL_of hf).2 ((4 : Int), n, v) (by simp)).2; simp only at this; omega
  have hx2 : ¬ (200 : Int) < (x.size : Int) := by omega
  have hck := fun (W' : World) (hb : RowKit.Below W.heap.size W W') => HCK.out hv 4 W' hb
  rw [hc] at hck
  have HCK1 := Lib.hid hck; clear hck
  rw [hf] at HFW
  have hcc := contrary_check (k' := 3) hc (by omega)
  have hco := contrary_one (k' := 3) x hc (by omega)
  have HCC := Lib.hid hcc; have HCO := Lib.hid hco
  clear hcc hco hc hf hx
  obtain ⟨p0, p1, p2⟩ := HCM.out W (RowKit.Below.refl _ _)
  go_enter Tryd.func5, Tryd.ntmps5
  go_wp2_with fail
  rw [← HW.out]
  refine (HLV.out W (RowKit.Below.refl _ _)).mono ?_
  rintro e w1 ⟨rfl, hb1⟩
  have HB1 := Lib.hid hb1; clear hb1 p0 p1 p2
  obtain ⟨p0, p1, p2⟩ := HCM.out w1 HB1.out
  go_wp2_with fail
  refine (HFW.out w1).mono ?_
  rintro e w2 ⟨rfl, hb2⟩
  have HB2 := Lib.hid (HB1.out.trans (hb2.mono HB1.out.size)); clear hb2 p0 p1 p2
  obtain ⟨p0, p1, p2⟩ := HCM.out w2 HB2.out
  go_wp2_with fail
  refine (HCK1.out w2 HB2.out).mono ?_
  rintro e w3 ⟨rfl, hb3⟩
  have HB3 := Lib.hid (HB2.out.trans (hb3.mono HB2.out.size)); clear hb3 p0 p1 p2
  obtain ⟨p0, p1, p2⟩ := HCM.out w3 HB3.out
  have hc' := HCC.out
  have ho' := HCO.out
  obtain ⟨W2, hW2⟩ : ∃ W2, W2 = w3.alloc (.cells #[.int .i64 3, .string n, .string v] 40) := ⟨_, rfl⟩
  have hbw2 : RowKit.Below W.heap.size W W2 := by rw [hW2]; exact HB3.out.alloc HB3.out.size _
  have hgo : W2.heap[w3.heap.size]? = some (.cells #[.int .i64 3, .string n, .string v] 40 (0, 0)) := by rw [hW2]; exact heap_alloc_new w3 _
  have HS := Lib.hid (fun (W' : World) (hb : RowKit.Below W2.heap.size W2 W') => show (W'.cell? ⟨w.heap.size, 0, none⟩ = some (.int .i64 4) ∧ W'.cell? ⟨w.heap.size, 1, none⟩ = some (.string n) ∧ W'.cell? ⟨w.heap.size, 2, none⟩ = some (.string v)) ∧ (W'.cell? ⟨w3.heap.size, 0, none⟩ = some (.int .i64 3) ∧ W'.cell? ⟨w3.heap.size, 1, none⟩ = some (.string n) ∧ W'.cell? ⟨w3.heap.size, 2, none⟩ = some (.string v)) from by
  refine ⟨HCM.out W' (hbw2.trans (hb.mono hbw2.size)), ?_⟩
  have h := (hb.block _ (blk_lt hgo)).trans hgo
  have e0 := cell_blk h 0; have e1 := cell_blk h 1; have e2 := cell_blk h 2
  simp only [List.getElem?_toArray, List.getElem?_cons_zero, List.getElem?_cons_succ] at e0 e1 e2
  exact ⟨e0, e1, e2⟩)
  have hck' := fun (W' : World) (hb : RowKit.Below W2.heap.size W2 W') => HCK.out hv 3 W' (hbw2.trans (hb.mono hbw2.size))
  rw [hc'] at hck'
  have h1' := fun (W' : World) (hb : RowKit.Below W2.heap.size W2 W') => HON.out hv 4 W' (hbw2.trans (hb.mono hbw2.size))
  have h2' := fun (W' : World) (hb : RowKit.Below W2.heap.size W2 W') => HON.out hv 3 W' (hbw2.trans (hb.mono hbw2.size))
  rw [ho'] at h2'
  generalize oneM (4, n, v) x = O at h1' h2'
  have HCK2 := Lib.hid hck'; have HO1 := Lib.hid h1'; have HO2 := Lib.hid h2'; have HW2 := Lib.hid hW2; have HBW2 := Lib.hid hbw2
  have HBc := Lib.hid (RowKit.Below.refl W2.heap.size W2)
  clear hck' h1' h2' hW2 hbw2 hgo hc' ho'
  obtain ⟨q0, q1, q2⟩ := HCM.out (w3.alloc (.cells #[.int .i64 4, .string n, .string v] 40)) (HB3.out.alloc HB3.out.size _)
  go_wp2_with fail
  rw [← HW2.out]
  go_region_held3 (fun W' => (W'.cell? ⟨w.heap.size, 0, none⟩ = some (.int .i64 4) ∧ W'.cell? ⟨w.heap.size, 1, none⟩ = some (.string n) ∧ W'.cell? ⟨w.heap.size, 2, none⟩ = some (.string v)) ∧ (W'.cell? ⟨w3.heap.size, 0, none⟩ = some (.int .i64 3) ∧ W'.cell? ⟨w3.heap.size, 1, none⟩ = some (.string n) ∧ W'.cell? ⟨w3.heap.size, 2, none⟩ = some (.string v))) (first | exact HS.out _ HBc.out | exact HS.out _ (below_drewN HBc.out _)) (first
    | (go_at_call 22; go_must (refine (HCK2.out _ (by first | exact HBc.out | exact below_drewN HBc.out _)).mono ?_; rintro e wq ⟨rfl, hbq⟩; (try (have hq1 := undrewM hbq; clear hbq; have hbq := hq1; clear hq1)); have hq1 := HBc.out.trans (hbq.mono HBc.out.size); have HBc := Lib.hid hq1; clear hq1 hbq))
    | (go_at_call 23; go_must ((first | with_reducible refine (HO1.out _ (by first | exact HBc.out | exact below_drewN HBc.out _)).mono ?_ | with_reducible refine (HO2.out _ (by first | exact HBc.out | exact below_drewN HBc.out _)).mono ?_); rintro e wq ⟨rfl, hbq⟩; (try (have hq1 := undrewM hbq; clear hbq; have hbq := hq1; clear hq1)); have hq1 := HBc.out.trans (hbq.mono HBc.out.size); have HBc := Lib.hid hq1; clear hq1 hbq))
    | fail)
  all_goals
    go_wp2
    go_ret
    exact ⟨by cases O <;> rfl, by first | exact HBW.out.trans ((HBW2.out.trans (HBc.out.mono HBW2.out.size)).mono HBW.out.size) | exact below_drewN (HBW.out.trans ((HBW2.out.trans (HBc.out.mono HBW2.out.size)).mono HBW.out.size)) _⟩
theorem mturned_walk (m : Mt') (x : ByteArray) (w : World) (hT : Tabs w) :
    Calls Tryd.prog 5 #[.agg #[.int .i64 m.1, .string m.2.1, .string m.2.2], .string x] w fun e w' => e = .returned (.bool true) ∧ RowKit.Below w.heap.size w w' := by
  obtain ⟨k, n, v⟩ := m
  simp only
  by_cases hall : fewL [(k, n, v)] = true ∧ x.size ≤ 200 ∧ checkM (k, n, v) = 0
  · obtain ⟨h1, h2, h3⟩ := hall
    rcases check_kind h3 with h | h | h | h
    · simp only at h; subst h; exact mturned_1 n v x w hT h1 h2 h3
    · simp only at h; subst h; exact mturned_2 n v x w hT h1 h2 h3
    · simp only at h; subst h; exact mturned_3 n v x w hT h1 h2 h3
    · simp only at h; subst h; exact mturned_4 n v x w hT h1 h2 h3
  have HALL := Lib.hid hall
  clear hall
  obtain ⟨W, hW⟩ : ∃ W, W = w.alloc (.cells #[.int .i64 k, .string n, .string v] 40) := ⟨_, rfl⟩
  have hbw : RowKit.Below w.heap.size w W := by rw [hW]; exact (RowKit.Below.refl _ w).alloc (Nat.le_refl _) _
  have hgm : W.heap[w.heap.size]? = some (.cells #[.int .i64 k, .string n, .string v] 40 (0, 0)) := by rw [hW]; exact heap_alloc_new w _
  have HCM := Lib.hid (fun (W' : World) (hb : RowKit.Below W.heap.size W W') => show W'.cell? ⟨w.heap.size, 0, none⟩ = some (.int .i64 k) ∧ W'.cell? ⟨w.heap.size, 1, none⟩ = some (.string n) ∧ W'.cell? ⟨w.heap.size, 2, none⟩ = some (.string v) from by
    have h := (hb.block _ (blk_lt hgm)).trans hgm
    have e0 := cell_blk h 0; have e1 := cell_blk h 1; have e2 := cell_blk h 2
    simp only [List.getElem?_toArray, List.getElem?_cons_zero, List.getElem?_cons_succ] at e0 e1 e2
    exact ⟨e0, e1, e2⟩)
  have HLV := Lib.hid (fun (W' : World) (hb : RowKit.Below W.heap.size W W') => mlive_any W' ((hT.below hbw).below hb))
  have HFW := Lib.hid (fun (W' : World) => show Calls Tryd.prog 17 #[.slice (some ⟨W'.heap.size, 0, none⟩) 1 1] (W'.alloc (.cells #[.int .i64 k, .string n, .string v] 40)) fun e w' => e = .returned (.bool (fewL [(k, n, v)])) ∧ RowKit.Below W'.heap.size W' w' from
    (mfew_any (some ⟨W'.heap.size, 0, none⟩) 1 [(k, n, v)] _ (rd_row' W' (mcells [(k, n, v)]) 40)).mono fun _ _ h => ⟨h.1, ((RowKit.Below.refl _ W').alloc (Nat.le_refl _) _).trans (h.2.mono (by simp))⟩)
  have HCK := Lib.hid (fun (hv : v.size ≤ 1000000) (k0 : Int) (W' : World) (hb : RowKit.Below W.heap.size W W') => show Calls Tryd.prog 22 #[.agg #[.int .i64 k0, .string n, .string v]] W' _ from mcheck_any (k0, n, v) W' ((hT.below hbw).below hb) hv)
  have HON := Lib.hid (fun (hv : v.size ≤ 1000000) (k0 : Int) (W' : World) (hb : RowKit.Below W.heap.size W W') => show Calls Tryd.prog 23 #[.agg #[.int .i64 k0, .string n, .string v], .string x] W' _ from mone_any (k0, n, v) x W' ((hT.below hbw).below hb) hv)
  have HBW := Lib.hid hbw; have HW := Lib.hid hW
  clear hbw hW hT hgm
  obtain ⟨p0, p1, p2⟩ := HCM.out W (RowKit.Below.refl _ _)
  go_enter Tryd.func5, Tryd.ntmps5
  go_wp2_with fail
  rw [← HW.out]
  refine (HLV.out W (RowKit.Below.refl _ _)).mono ?_
  rintro e w1 ⟨rfl, hb1⟩
  have HB1 := Lib.hid hb1; clear hb1 p0 p1 p2
  obtain ⟨p0, p1, p2⟩ := HCM.out w1 HB1.out
  go_wp2_with fail
  cases hf : fewL [(k, n, v)] with
  | false =>
    rw [hf] at HFW
    refine (HFW.out w1).mono ?_
    rintro e w2 ⟨rfl, hb2⟩
    have HB2 := Lib.hid (HB1.out.trans (hb2.mono HB1.out.size)); clear hb2
    go_wp2_with fail
    refine (HLV.out w2 HB2.out).mono ?_
    rintro e w3 ⟨rfl, hb3⟩
    have HB3 := Lib.hid (HB2.out.trans (hb3.mono HB2.out.size)); clear hb3
    go_wp2
    go_ret
    exact ⟨rfl, HBW.out.trans (HB3.out.mono HBW.out.size)⟩
  | true =>
    rw [hf] at HFW
    have hv : v.size ≤ 1000000 := by have := ((fewL_of hf).2 (k, n, v) (by simp)).2; simp only at this; omega
    refine (HFW.out w1).mono ?_
    rintro e w2 ⟨rfl, hb2⟩
    have HB2 := Lib.hid (HB1.out.trans (hb2.mono HB1.out.size)); clear hb2 p0 p1 p2
    obtain ⟨p0, p1, p2⟩ := HCM.out w2 HB2.out
    have HF := Lib.hid hf
    clear hf HFW
    by_cases hx : x.size ≤ 200
    · have HNC := Lib.hid (fun h : checkM (k, n, v) = 0 => HALL.out ⟨HF.out, hx, h⟩)
      have hx2 : ¬ (200 : Int) < (x.size : Int) := by omega
      go_wp2_with fail
      by_cases hc : checkM (k, n, v) = 0
      · exact absurd hc HNC.out
      · have hck := HCK.out hv k w2 HB2.out
        generalize checkM (k, n, v) = C at hck hc
        have HCK1 := Lib.hid hck; clear hck
        have hc2 : ¬ ((C : Nat) : Int) = 0 := by omega
        have hc3 : (((C : Nat) : Int) != 0) = true := by rw [bne_iff_ne]; exact hc2
        refine HCK1.out.mono ?_
        rintro e w3 ⟨rfl, hb3⟩
        have HB3 := Lib.hid (HB2.out.trans (hb3.mono HB2.out.size)); clear hb3
        go_wp2_with fail
        refine (HLV.out w3 HB3.out).mono ?_
        rintro e w4 ⟨rfl, hb4⟩
        have HB4 := Lib.hid (HB3.out.trans (hb4.mono HB3.out.size)); clear hb4
        go_wp2
        go_ret
        exact ⟨rfl, HBW.out.trans (HB4.out.mono HBW.out.size)⟩
    · have hx2 : (200 : Int) < (x.size : Int) := by omega
      go_wp2_with fail
      refine (HLV.out w2 HB2.out).mono ?_
      rintro e w4 ⟨rfl, hb4⟩
      have HB4 := Lib.hid (HB2.out.trans (hb4.mono HB2.out.size)); clear hb4
      go_wp2
      go_ret
      exact ⟨rfl, HBW.out.trans (HB4.out.mono HBW.out.size)⟩
end

set_option maxRecDepth 100000 in
theorem matchTurned_contract (H : Type) (enc : TypeId × Value → H) (W : World) (base : Nat) (args : Array Value) (ds gs : List (DataW H)) (before : List MemPlace)
    (hval : ∀ (j : Nat) t v, Tryd.f5.params[j]? = some t → args[j]? = some v → Value.okWide Tryd.prog W .any base t v)
    (hW : DataW.Whole enc Tryd.prog Tryd.f5.params.toList Rows.matchTurnedSpec.vars false W args.toList ds gs before) (hL : laidMetH Tryd.prog Rows.matchTurnedRow.laid W) :
    Calls Tryd.prog 5 args W fun e W' => ∃ v, e = .returned v ∧ Rows.matchTurnedSpec.post enc Tryd.prog Tryd.f5 false true false false W args v W' := by
  have hW' := hW
  obtain ⟨p, q, hA0, hV, rfl, hfz, hnd⟩ := hW
  have hA : DataW.TrodAll enc Tryd.prog W 0 (fun _ => true) true Tryd.f5.params.toList args.toList ds p := hA0
  rw [Tryd.params5] at hA hval
  obtain ⟨v0, vs0, d0, ds0, p0, q0, hargs, rfl, rfl, h0, r0⟩ := trodAll_cons hA
  obtain ⟨v1, vs1, d1, ds1, p1, q1, rfl, rfl, rfl, h1, r1⟩ := trodAll_cons r0
  obtain ⟨rfl, rfl, rfl⟩ := trodAll_nil r1
  obtain rfl : args = #[v0, v1] := by cases args; simp_all
  obtain ⟨rfl, rfl⟩ := trodVars_none hV
  obtain ⟨x0, rfl, hs0⟩ := open_matcher (hval 0 40 v0 rfl rfl) h0
  obtain ⟨s1, rfl, rfl, rfl, ws1⟩ := open_string Tryd.underlying9 (hval 1 9 v1 rfl rfl) h1
  clear hA0 hA
  unfold maxLen at hs0
  unfold maxLen at ws1
  refine (mturned_walk x0 s1 W (tabs hL)).mono fun e W' ⟨he, hg⟩ => ?_
  subst he
  exact ⟨_, rfl, law_end laidOut (by kernel_rfl) (by kernel_rfl) Tryd.underlying4 rfl hW' ⟨rfl, rfl, rfl⟩ hg⟩

theorem matchTurned_met (os : Os) : laidMet Tryd.prog Rows.matchTurnedRow.laid ((laidWorld os).forCall (fun _ _ => 0) ⟨#[], #[.agg #[.int .i64 0, .string ⟨#[]⟩, .string ⟨#[]⟩], .string ⟨#[]⟩], []⟩).memory :=
  laid_met os _
theorem matchTurned_reads (os : Os) {H : Type} (enc : TypeId × Value → H) : ∃ places, DataW.whole enc Tryd.prog ((laidWorld os).forCall (fun _ _ => 0) ⟨#[], #[.agg #[.int .i64 0, .string ⟨#[]⟩, .string ⟨#[]⟩], .string ⟨#[]⟩], []⟩).memory Tryd.f5.params.toList Rows.matchTurnedSpec.vars false (#[.agg #[.int .i64 0, .string ⟨#[]⟩, .string ⟨#[]⟩], .string ⟨#[]⟩] : Array Value).toList 8 = some ([.agg [.lit (.int .i64 0), .lit (.string []), .lit (.string [])], .lit (.string [])], [], places) :=
  ⟨[], by kernel_rfl⟩

set_option maxRecDepth 100000 in
theorem matchTurned_lifted (os : Os) (started : os.Started) (H : Type) (enc : TypeId × Value → H) (F : Stop.Interp) :
    ReturnsInHanded {} Tryd.checked os 5 .any ((OpenSpec.ofChange Rows.matchTurnedSpec).preRow enc Tryd.prog Tryd.f5 Rows.matchTurnedRow.domain false Rows.matchTurnedRow.laid) (((OpenSpec.ofChange Rows.matchTurnedSpec).at F).post enc Tryd.prog Tryd.f5 false true false false) := by
  obtain ⟨places, hx⟩ := matchTurned_reads os enc
  refine returnsInHanded_of_row (C := Tryd.checked) (s := OpenSpec.ofChange Rows.matchTurnedSpec) ownKn started (by kernel_rfl) Tryd.func5
    (witness_row_at (enc := enc) (C := Tryd.checked) false (laidWorld os) #[.agg #[.int .i64 0, .string ⟨#[]⟩, .string ⟨#[]⟩], .string ⟨#[]⟩] rfl (by kernel_rfl) (by kernel_rfl) (by kernel_rfl)
      (OpenSpec.preRow_of_cond 8 hx (by kernel_rfl) (fun k hk => by cases hk) (by kernel_rfl) (matchTurned_met os))) ?_
  intro W base args ds gs before hval hW _ _ _ hL _ _
  exact matchTurned_contract H enc W base args ds gs before hval hW hL

theorem matchTurned_said : Rows.MatchTurnedSaid :=
  OpenClaim.holds_of_cond 5 Tryd.f5 rfl rfl rfl rfl rfl rfl rfl ⟨rfl, rfl, rfl, rfl, rfl⟩ rfl rfl rfl rfl rfl (by kernel_rfl) Tryd.func5 (by kernel_rfl)
    (of_decide_eq_true (by kernel_rfl)) (by unfold Func.isWrapper; first | (rw [if_pos (by decide +kernel)]; kernel_rfl) | (rw [if_neg (by decide +kernel)]; exact ⟨rfl, rfl⟩))
    (fun os started H enc _ F => by rw [OpenClaim.pre_eq_preRow]; exact matchTurned_lifted os started H enc F)

theorem matchTurned_plain (f : FuncId) (fn : Func) (hf : Tryd.pinned.checked.prog.funcNamed "manometer/manometerlaw07.MatchTurned" = some f) (hfn : Tryd.pinned.checked.prog.funcs[f]? = some fn) :
    true = Tryd.pinned.checked.prog.looks [] ∧ ∀ (j : Nat) t, fn.params[j]? = some t → Tryd.pinned.checked.prog.wantsStandIn t = false := by
  obtain rfl : f = 5 := Option.some.inj ((show Tryd.prog.funcNamed "manometer/manometerlaw07.MatchTurned" = some 5 by kernel_rfl).symm.trans hf) |>.symm
  obtain rfl : fn = Tryd.f5 := (Option.some.inj (Tryd.func5.symm.trans hfn)).symm
  refine ⟨by kernel_rfl, fun j t ht => ?_⟩
  rw [Tryd.params5] at ht
  have hm : t = 40 ∨ t = 9 := by simpa using Array.mem_of_getElem? ht
  rcases hm with rfl | rfl
  · exact (show Tryd.prog.wantsStandIn 40 = false by kernel_rfl)
  · exact (show Tryd.prog.wantsStandIn 9 = false by kernel_rfl)

theorem matchTurned_card : Rows.MatchTurnedCardSaid :=
  Claim7.holds_tied_plain_at .later [] _ _ _ _ matchTurned_said (fun _ h => by cases h) (by kernel_rfl) (fun _ h => by cases h) matchTurned_row_tie rfl ⟨rfl, rfl⟩ (by kernel_rfl) rfl matchTurned_plain (by kernel_rfl)
#print axioms matchTurned_card

end Go.Proofs.YtalcbbpghfdeeaaDoor
