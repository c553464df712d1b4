/-
  Atoms get followers.
-/
import Derived.Test.YtfohmepjedehfabQj
import Derived.Deep.RegionHeld3
namespace Go.Proofs.Ytfohmepjedehfab
set_option linter.unusedVariables false
set_option linter.unusedSimpArgs false
open Go.RowKit
section
set_option maxHeartbeats 1600000
set_option maxRecDepth 100000
theorem cell_below {w w' : World} (hb : RowKit.Below w.heap.size w w') {a : Addr} {x : Value} (h : w.cell? a = some x) : w'.cell? a = w.cell? a := by
  have hlt : a.block < w.heap.size := by
    unfold World.cell? at h
    cases hq : w.heap[a.block]? with
    | none => simp [hq] at h
    | some o => exact blk_lt hq
  unfold World.cell?
  rw [hb.block _ hlt]
theorem cell_mv {S : Nat → Prop} {w w' : World} (hb : Mv S w w') {a : Addr} {x : Value} (h : w.cell? a = some x) (ha : ¬ S a.block) : w'.cell? a = w.cell? a := by
  have hlt : a.block < w.heap.size := by
    unfold World.cell? at h
    cases hq : w.heap[a.block]? with
    | none => simp [hq] at h
    | some o => exact blk_lt hq
  unfold World.cell?
  rw [hb.block _ hlt ha]
theorem below_drew {B : Nat} {w w' : World} (h : RowKit.Below B w w') : RowKit.Below B w w'.drew := ⟨h.os, h.tape, h.output, h.size, h.block⟩
theorem folK_get_len {L : List Atm} {k : Nat} (h : k < L.length) : ∃ a, L[k]? = some a := ⟨L[k], List.getElem?_eq_getElem h⟩
/-- Where an atom's followers lie, in the row of atoms. -/
theorem PIs.nexts {w : World} {p : Nat} {l : List Pc} {v : Value} {us : List Value} {L : List Atm} (h : PIs w p l v us L) {k : Nat} {a : Atm} (ha : L[k]? = some a) :
    ∃ g c cur, v = .slice (some ⟨g, 0, none⟩) L.length c ∧ p < g ∧ g < w.heap.size ∧ w.heap[g]? = some (.cells cur 124 (0, 0)) ∧ L.length ≤ c ∧ ∀ j, j < 4 → w.cell? ⟨g, k * 6 + 2 + j, none⟩ = some (.int .u64 (wd a.next j : Nat)) := by
  have hk := (List.getElem?_eq_some_iff.mp ha).1
  rcases h.at'.row.2 with ⟨e1, e2⟩ | ⟨g, cap, cur, e1, hB, hh, hn, hc, hs, ht⟩
  · omega
  · have ho : v.ownBlock = some g := by rw [e1]; rfl
    obtain ⟨u, hu⟩ : ∃ u, us[k]? = some u := ⟨us[k]'(by rw [h.at'.len]; exact hk), List.getElem?_eq_getElem _⟩
    refine ⟨g, cap, cur, e1, by omega, (h.at'.row.lt g ho).2, hh, hn, fun j hj => ?_⟩
    have := h.at'.row.cells (g := g) ho (k * 6 + 2 + j) (.int .u64 (wd a.next j : Nat)) ?_
    · rwa [add_flat] at this
    · rw [show k * 6 + 2 + j = k * 6 + (2 + j) from by omega, atsC_get us L k u a hu ha (2 + j) (by omega)]
      match j, hj with
      | 0, _ => rfl
      | 1, _ => rfl
      | 2, _ => rfl
      | 3, _ => rfl
theorem PIs.followed {w w' : World} {p : Nat} {l : List Pc} {v : Value} {us : List Value} {L : List Atm} (h : PIs w p l v us L) {k : Nat} {a : Atm} (ha : L[k]? = some a) {g n c : Nat} (hv : v = .slice (some ⟨g, 0, none⟩) n c) (x : Nat) (hb : Below w.heap.size w w') :
    PIs ((((w'.setCell ⟨g, k * 6 + 2, none⟩ (.int .u64 (wd x 0 : Nat))).setCell ⟨g, k * 6 + 2 + 1, none⟩ (.int .u64 (wd x 1 : Nat))).setCell ⟨g, k * 6 + 2 + 2, none⟩ (.int .u64 (wd x 2 : Nat))).setCell ⟨g, k * 6 + 2 + 3, none⟩ (.int .u64 (wd x 3 : Nat))) p l v us (L.set k { a with next := x }) := by
  have hk := (List.getElem?_eq_some_iff.mp ha).1
  have h' := h.below hb
  subst hv
  have r0 := h'.at'.row
  have hnL : n = L.length := by
    rcases r0.2 with ⟨e, _⟩ | ⟨g', cap, cur, e, _⟩
    · cases e
    · injection e
  subst hnL
  have r4 := own_set (own_set (own_set (own_set r0 (j := k * 6 + 2) (by omega) (.int .u64 (wd x 0 : Nat))) (j := k * 6 + 2 + 1) (by omega) (.int .u64 (wd x 1 : Nat))) (j := k * 6 + 2 + 2) (by omega) (.int .u64 (wd x 2 : Nat))) (j := k * 6 + 2 + 3) (by omega) (.int .u64 (wd x 3 : Nat))
  have hnx : ((((atsC us L).set (k * 6 + 2) (.int .u64 (wd x 0 : Nat))).set (k * 6 + 2 + 1) (.int .u64 (wd x 1 : Nat))).set (k * 6 + 2 + 2) (.int .u64 (wd x 2 : Nat))).set (k * 6 + 2 + 3) (.int .u64 (wd x 3 : Nat)) = atsC us (L.set k { a with next := x }) := atsC_next us L k a x h'.at'.len ha
  rw [hnx] at r4
  have m : Mv (fun k => k = g) w' _ := ((((Mv.refl (fun k => k = g) w').setCell (p := ⟨g, k * 6 + 2, none⟩) (fun _ => rfl) (.int .u64 (wd x 0 : Nat))).setCell (p := ⟨g, k * 6 + 2 + 1, none⟩) (fun _ => rfl) (.int .u64 (wd x 1 : Nat))).setCell (p := ⟨g, k * 6 + 2 + 2, none⟩) (fun _ => rfl) (.int .u64 (wd x 2 : Nat))).setCell (p := ⟨g, k * 6 + 2 + 3, none⟩) (fun _ => rfl) (.int .u64 (wd x 3 : Nat))
  have hpg : p + 1 ≤ g := (r0.lt g rfl).1
  refine h'.turn m (fun i hi e => by omega) (fun y hy => (m.block p (blk_lt hy) (by omega)).trans hy) ⟨by simp [h'.at'.len], by simpa using r4, fun i u a' hu ha' => ?_⟩ (by simpa using h'.few)
  have ⟨b, hb1, hb2⟩ : ∃ b, L[i]? = some b ∧ b.sp = a'.sp := by
    rw [List.getElem?_set] at ha'
    split at ha'
    · rename_i e; subst e
      injection ha' with ha'
      exact ⟨a, ha, by rw [← ha']⟩
    · exact ⟨a', ha', rfl⟩
  rw [← hb2]
  refine own_mv (h'.at'.sp i u b hu hb1) m fun j hj e => ?_
  subst e
  exact h'.ne_sp hu hb1 hj rfl
theorem follow_any (p : Nat) (l : List Pc) (v : Value) (us : List Value) (L : List Atm) (these nx : Nat) (w : World) (h : PIs w p l v us L) :
    Calls Try.prog 96 #[.pointer (some ⟨p, 0, none⟩), setV these, setV nx] w fun e w' => e = .returned (.tuple #[]) ∧ PIs w' p l v us (followP these nx L) ∧ Mv (fun k => v.ownBlock = some k) w w' := by
  obtain ⟨W, hW⟩ : ∃ W, W = (w.alloc (.cells #[.int .u64 (wd these 0 : Nat), .int .u64 (wd these 1 : Nat), .int .u64 (wd these 2 : Nat), .int .u64 (wd these 3 : Nat)] 83)).alloc (.cells #[.int .u64 (wd nx 0 : Nat), .int .u64 (wd nx 1 : Nat), .int .u64 (wd nx 2 : Nat), .int .u64 (wd nx 3 : Nat)] 83) := ⟨_, rfl⟩
  have hb : RowKit.Below w.heap.size w W := by rw [hW]; exact ((RowKit.Below.refl _ w).alloc (Nat.le_refl _) _).alloc (by simp) _
  have h2 : W.heap[w.heap.size]? = some (.cells #[.int .u64 (wd these 0 : Nat), .int .u64 (wd these 1 : Nat), .int .u64 (wd these 2 : Nat), .int .u64 (wd these 3 : Nat)] 83 (0, 0)) := by
    rw [hW, Below.heap_alloc _ _ _ (by simp)]; exact heap_alloc_new _ _
  have h3 : W.heap[w.heap.size + 1]? = some (.cells #[.int .u64 (wd nx 0 : Nat), .int .u64 (wd nx 1 : Nat), .int .u64 (wd nx 2 : Nat), .int .u64 (wd nx 3 : Nat)] 83 (0, 0)) := by
    rw [hW]; exact heap_alloc_new2 _ _ _
  have hown : ∀ k, v.ownBlock = some k → k < w.heap.size := fun k hk => (h.at'.row.lt k hk).2
  have hs : ∀ W', Mv (fun k => v.ownBlock = some k) W W' → W'.cell? ⟨w.heap.size, 0, none⟩ = some (.int .u64 (wd these 0 : Nat)) ∧ W'.cell? ⟨w.heap.size, 1, none⟩ = some (.int .u64 (wd these 1 : Nat)) ∧ W'.cell? ⟨w.heap.size, 2, none⟩ = some (.int .u64 (wd these 2 : Nat)) ∧ W'.cell? ⟨w.heap.size, 3, none⟩ = some (.int .u64 (wd these 3 : Nat)) ∧ W'.cell? ⟨w.heap.size + 1, 0, none⟩ = some (.int .u64 (wd nx 0 : Nat)) ∧ W'.cell? ⟨w.heap.size + 1, 1, none⟩ = some (.int .u64 (wd nx 1 : Nat)) ∧ W'.cell? ⟨w.heap.size + 1, 2, none⟩ = some (.int .u64 (wd nx 2 : Nat)) ∧ W'.cell? ⟨w.heap.size + 1, 3, none⟩ = some (.int .u64 (wd nx 3 : Nat)) := fun W' hb' => by
    have k2 := (hb'.block _ (blk_lt h2) (fun e => by have := hown _ e; omega)).trans h2
    have k3 := (hb'.block _ (blk_lt h3) (fun e => by have := hown _ e; omega)).trans h3
    refine ⟨?_, ?_, ?_, ?_, ?_, ?_, ?_, ?_⟩ <;> first | (rw [cell_blk k2]; rfl) | (rw [cell_blk k3]; rfl)
  have hlen : L.length ≤ 256 := by
    have := h.few
    have : 0 < l.length := List.length_pos_iff.2 h.ok.ne
    omega
  have h1 := h.below hb
  have HOWN := Lib.hid hown
  have HB := Lib.hid hb; have HS := Lib.hid hs; have HW := Lib.hid hW; have H1 := Lib.hid (show PIs W p l v us (folK these nx 0 L) by rw [folK_zero]; exact h1)
  have HFIN := Lib.hid (show ∀ W', PIs W' p l v us (folK these nx L.length L) → PIs W' p l v us (followP these nx L) from fun W' k => by rwa [folK_all] at k)
  have HMV := Lib.hid (show ∀ W', Mv (fun k => v.ownBlock = some k) W W' → Mv (fun k => v.ownBlock = some k) w W' from fun W' m => (Mv.of_below hb _).trans m fun _ _ h => h)
  obtain ⟨Av, cv, hv, -, -, -⟩ := own_rdg h.at'.row
  obtain ⟨pb, off, c, hbx, -, -, -, -⟩ := h.box
  have b1 := cell_blk hbx 1
  simp only [List.getElem?_toArray, List.getElem?_cons_succ, List.getElem?_cons_zero] at b1
  rw [hv] at b1
  have HV := Lib.hid hv
  have hplt := h.lt
  have hplt1 : p ≠ w.heap.size := by omega
  have hplt2 : p ≠ w.heap.size + 1 := by omega
  have HP := Lib.hid (show ∀ W' A, PIs W' p l v us A → W'.cell? ⟨p, 1, none⟩ = some (.slice Av L.length cv) from fun W' A k => by
    obtain ⟨pb, off, c, hbx, -, -, -, -⟩ := k.box
    have b1 := cell_blk hbx 1
    simp only [List.getElem?_toArray, List.getElem?_cons_succ, List.getElem?_cons_zero] at b1
    rw [b1, hv])
  obtain ⟨n, hn⟩ : ∃ n, n = L.length := ⟨_, rfl⟩
  rw [← hn] at b1 HFIN HP HV hlen
  have HN := Lib.hid hn
  clear hb h2 h3 hs hW h1 hv hbx h hown hn
  unfold setV setL
  go_enter Try.func96, Try.ntmps96
  go_wp2_with fail
  rw [← HW.out]
  trace_state
  go_loopw [12] (fun s12 wr => ∃ (k : Nat), s12 = .int .i64 k ∧ k ≤ n ∧ Aside (PIs wr p l v us (folK these nx k L)) ∧ Aside (Mv (fun k => v.ownBlock = some k) W wr)) (fun s12 _ => n - (intOf s12).toNat)
  case atStart => exact ⟨0, rfl, by omega, H1.out, Mv.refl _ _⟩
  case round =>
    obtain ⟨k, rfl, hk, HK, HM⟩ := hrel
    have hpc := HP.out _ _ HK.out
    by_cases hlt : k < n
    · have k1 : (k : Int) < (n : Int) := by omega
      obtain ⟨c0, c1, c2, c3, d0, d1, d2, d3⟩ := HS.out _ HM.out
      obtain ⟨a, ha⟩ := folK_get_len (L := L) (k := k) (by have := HN.out; omega)
      have hfa := folK_at these nx ha
      have hst := folK_step these nx ha
      have HH := Lib.hid (has_lit these k (by omega) wr)
      have hs0 : these.testBit k = false → folK these nx (k + 1) L = folK these nx k L := folK_same these nx ha
      have HST := Lib.hid hst
      cases hbit : these.testBit k with
      | false =>
        rw [hbit] at HH
        have HE := Lib.hid (hs0 hbit)
        clear hst hs0 hfa ha d0 d1 d2 d3
        go_wp2_with fail
        refine HH.out.mono ?_
        rintro e w1 ⟨rfl, hb1⟩
        go_wp2
        go_roundw
        case rel => exact ⟨k + 1, by go_num, by omega, (show Aside _ from by rw [HE.out]; exact HK.out.below hb1), (show Aside _ from HM.out.trans (Mv.of_below hb1 _) fun _ _ h => h)⟩
        case measure => simp [intOf]; omega
      | true =>
        rw [hbit] at HH
        rw [hbit, if_pos rfl] at hst
        obtain ⟨g, c, cur, hv, hpg, hgw, hgb, hnc, hnx⟩ := HK.out.nexts hfa
        have e0 := hnx 0 (by omega)
        have e1 := hnx 1 (by omega)
        have e2 := hnx 2 (by omega)
        have e3 := hnx 3 (by omega)
        simp only [Nat.add_zero] at e0
        have HGW := Lib.hid (show g < w.heap.size from HOWN.out g (by rw [hv]; rfl))
        have hpc2 : wr.cell? ⟨p, 1, none⟩ = some (.slice (some ⟨g, 0, none⟩) n c) := by rw [hpc, ← HV.out, hv, HN.out, folK_len these nx k L (by have := HN.out; omega)]
        have HS2 := Lib.hid (show ∀ W', RowKit.Below wr.heap.size wr W' → (W'.cell? ⟨p, 1, none⟩ = some (.slice (some ⟨g, 0, none⟩) n c) ∧ W'.cell? ⟨g, k * 6 + 2, none⟩ = some (.int .u64 (wd a.next 0 : Nat)) ∧ W'.cell? ⟨g, k * 6 + 2 + 1, none⟩ = some (.int .u64 (wd a.next 1 : Nat)) ∧ W'.cell? ⟨g, k * 6 + 2 + 2, none⟩ = some (.int .u64 (wd a.next 2 : Nat)) ∧ W'.cell? ⟨g, k * 6 + 2 + 3, none⟩ = some (.int .u64 (wd a.next 3 : Nat)) ∧ W'.cell? ⟨w.heap.size + 1, 0, none⟩ = some (.int .u64 (wd nx 0 : Nat)) ∧ W'.cell? ⟨w.heap.size + 1, 1, none⟩ = some (.int .u64 (wd nx 1 : Nat)) ∧ W'.cell? ⟨w.heap.size + 1, 2, none⟩ = some (.int .u64 (wd nx 2 : Nat)) ∧ W'.cell? ⟨w.heap.size + 1, 3, none⟩ = some (.int .u64 (wd nx 3 : Nat)) ∧ ∀ i, W'.frozen? ⟨g, i, none⟩ = false) from fun W' hb' => by
          have hM := HM.out.trans (Mv.of_below hb' _) fun _ _ h => h
          obtain ⟨-, -, -, -, q0, q1, q2, q3⟩ := HS.out _ hM
          have hcc : ∀ b o x, wr.cell? ⟨b, o, none⟩ = some x → W'.cell? ⟨b, o, none⟩ = some x := fun b o x hx => by rw [cell_below hb' hx]; exact hx
          exact ⟨hcc _ _ _ hpc2, hcc _ _ _ e0, hcc _ _ _ e1, hcc _ _ _ e2, hcc _ _ _ e3, q0, q1, q2, q3, fun i => free_blk ((hb'.block _ hgw).trans hgb) i⟩)
        have hpgne : p ≠ g := by omega
        have HQS := Lib.hid (show ∀ W', Qs g wr W' → (W'.cell? ⟨p, 1, none⟩ = some (.slice (some ⟨g, 0, none⟩) n c) ∧ W'.cell? ⟨w.heap.size + 1, 0, none⟩ = some (.int .u64 (wd nx 0 : Nat)) ∧ W'.cell? ⟨w.heap.size + 1, 1, none⟩ = some (.int .u64 (wd nx 1 : Nat)) ∧ W'.cell? ⟨w.heap.size + 1, 2, none⟩ = some (.int .u64 (wd nx 2 : Nat)) ∧ W'.cell? ⟨w.heap.size + 1, 3, none⟩ = some (.int .u64 (wd nx 3 : Nat))) from fun W' hb' => by
          have hcc : ∀ b o x, b ≠ g → wr.cell? ⟨b, o, none⟩ = some x → W'.cell? ⟨b, o, none⟩ = some x := fun b o x hb hx => by rw [cell_mv hb' hx hb]; exact hx
          have hne : w.heap.size + 1 ≠ g := by have := HGW.out; omega
          exact ⟨hcc _ _ _ hpgne hpc2, hcc _ _ _ hne d0, hcc _ _ _ hne d1, hcc _ _ _ hne d2, hcc _ _ _ hne d3⟩)
        have HFOL := Lib.hid (show ∀ W', RowKit.Below wr.heap.size wr W' → PIs ((((W'.setCell ⟨g, k * 6 + 2, none⟩ (.int .u64 (wd (a.next ||| nx) 0 : Nat))).setCell ⟨g, k * 6 + 2 + 1, none⟩ (.int .u64 (wd (a.next ||| nx) 1 : Nat))).setCell ⟨g, k * 6 + 2 + 2, none⟩ (.int .u64 (wd (a.next ||| nx) 2 : Nat))).setCell ⟨g, k * 6 + 2 + 3, none⟩ (.int .u64 (wd (a.next ||| nx) 3 : Nat))) p l v us (folK these nx (k + 1) L) from fun W' hb' => by rw [hst]; exact HK.out.followed hfa hv (a.next ||| nx) hb')
        have HMM := Lib.hid (show ∀ W', RowKit.Below wr.heap.size wr W' → Mv (fun k => v.ownBlock = some k) W ((((W'.setCell ⟨g, k * 6 + 2, none⟩ (.int .u64 (wd (a.next ||| nx) 0 : Nat))).setCell ⟨g, k * 6 + 2 + 1, none⟩ (.int .u64 (wd (a.next ||| nx) 1 : Nat))).setCell ⟨g, k * 6 + 2 + 2, none⟩ (.int .u64 (wd (a.next ||| nx) 2 : Nat))).setCell ⟨g, k * 6 + 2 + 3, none⟩ (.int .u64 (wd (a.next ||| nx) 3 : Nat))) from fun W' hb' => by
          have hM := HM.out.trans (Mv.of_below hb' _) fun _ _ h => h
          have ho : v.ownBlock = some g := by rw [hv]; rfl
          exact (((hM.setCell (fun _ => ho) _).setCell (fun _ => ho) _).setCell (fun _ => ho) _).setCell (fun _ => ho) _)
        have g7 : (0 : Int) ≤ (k : Int) := by omega
        clear hst hs0 hfa ha hv hpg hgw hgb hnc hnx e0 e1 e2 e3 hpc hpc2 HST HP hpgne
        generalize a.next = x at HS2 HFOL HMM
        clear d0 d1 d2 d3
        go_wp2_with fail
        refine HH.out.mono ?_
        rintro e w1 ⟨rfl, hb1⟩
        have HB1 := Lib.hid hb1
        have HMV2 := Lib.hid hb1
        clear hb1
        have hq2 := HS2.out _ HMV2.out
        obtain ⟨x0, x1, x2, x3, x4, x5, x6, x7, x8, xf⟩ := hq2
        have HQ := Lib.hid (show Qs g wr w1 from Mv.of_below HMV2.out _)
        have r0 : ∀ w', Qs g wr w' → w'.cell? ⟨p, 1, none⟩ = some (.slice (some ⟨g, 0, none⟩) n c) := fun w' h => (HQS.out _ h).1
        have r1 : ∀ w', Qs g wr w' → w'.cell? ⟨w.heap.size + 1, 0, none⟩ = some (.int .u64 (wd nx 0 : Nat)) := fun w' h => (HQS.out _ h).2.1
        have r2 : ∀ w', Qs g wr w' → w'.cell? ⟨w.heap.size + 1, 1, none⟩ = some (.int .u64 (wd nx 1 : Nat)) := fun w' h => (HQS.out _ h).2.2.1
        have r3 : ∀ w', Qs g wr w' → w'.cell? ⟨w.heap.size + 1, 2, none⟩ = some (.int .u64 (wd nx 2 : Nat)) := fun w' h => (HQS.out _ h).2.2.2.1
        have r4 : ∀ w', Qs g wr w' → w'.cell? ⟨w.heap.size + 1, 3, none⟩ = some (.int .u64 (wd nx 3 : Nat)) := fun w' h => (HQS.out _ h).2.2.2.2
        go_wp2_with fail
        go_region_law (first
          | (go_simp; go_at_call 67; go_must ((with_reducible refine (with_lit _ _ _).mono ?_); rintro e wq ⟨rfl, hbq⟩; (try (have hq1 := undrew hbq; clear hbq; have hbq := hq1; clear hq1)); have hq1 := HMV2.out.trans (hbq.mono HMV2.out.size); have HMV2 := Lib.hid hq1; have HQ := Lib.hid (show Qs g wr wq from Mv.of_below hq1 _); have hq2 := HS2.out _ hq1; clear hq1 hbq; obtain ⟨y0, y1, y2, y3, y4, y5, y6, y7, y8, yf⟩ := hq2))
          | fail)
        all_goals
          go_wp2
          go_roundw
          case rel => exact ⟨k + 1, by go_num, by omega, (show Aside _ from HFOL.out _ HMV2.out), (show Aside _ from HMM.out _ HMV2.out)⟩
          case measure => simp [intOf]; omega
    · obtain rfl : k = n := by omega
      have hfin := HFIN.out _ HK.out
      have HF := Lib.hid hfin
      clear hfin
      go_wp2
      go_end0
      exact ⟨rfl, HF.out, HMV.out _ HM.out⟩
end
end Go.Proofs.Ytfohmepjedehfab
