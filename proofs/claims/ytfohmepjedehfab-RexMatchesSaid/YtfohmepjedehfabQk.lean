/-
  An atom added behind all that are there.
-/
import Derived.Test.YtfohmepjedehfabQl
import Derived.Deep.AppendLies
namespace Go.Proofs.Ytfohmepjedehfab
set_option linter.unusedVariables false
set_option linter.unusedSimpArgs false
open Go.RowKit
section
set_option maxHeartbeats 1600000
set_option maxRecDepth 100000
theorem only_lit (i : Nat) (hi : i < 256) (w : World) : Calls Try.prog 109 #[.int .i64 (i : Nat)] w fun e w' => e = .returned (.agg #[.int .u64 (wd (2 ^ i) 0 : Nat), .int .u64 (wd (2 ^ i) 1 : Nat), .int .u64 (wd (2 ^ i) 2 : Nat), .int .u64 (wd (2 ^ i) 3 : Nat)]) ∧ RowKit.Below w.heap.size w w' := only_any i hi w
theorem AtIs.snoc {w w' : World} {p : Nat} {v v' u : Value} {us : List Value} {L : List Atm} {a : Atm} {S : Nat → Prop} (h : AtIs w (p + 1) v us L) (m : Mv S w w') (hS : ∀ (i : Nat) (u : Value) (a : Atm), us[i]? = some u → L[i]? = some a → ∀ k, u.ownBlock = some k → ¬ S k)
    (hr : w'.ownsRow (p + 1) 124 6 v' (L.length + 1) (atsC us L ++ atC u a)) (hu : w'.ownsRow (p + 1) 128 2 u a.sp.length (spC a.sp)) : AtIs w' (p + 1) v' (us ++ [u]) (L ++ [a]) := by
  refine ⟨by simp [h.len], by rw [atsC_app _ _ _ _ h.len]; simpa using hr, fun i u' a' hu' ha' => ?_⟩
  by_cases hi : i < L.length
  · rw [List.getElem?_append_left (by rw [h.len]; exact hi)] at hu'
    rw [List.getElem?_append_left hi] at ha'
    exact own_mv (h.sp i u' a' hu' ha') m (hS i u' a' hu' ha')
  · have hi2 : i = L.length := by
      have := (List.getElem?_eq_some_iff.mp ha').1
      simp at this; omega
    subst hi2
    rw [List.getElem?_append_right (by rw [h.len]; omega), h.len, Nat.sub_self] at hu'
    rw [List.getElem?_append_right (by omega), Nat.sub_self] at ha'
    simp at hu' ha'
    subst hu'; subst ha'
    exact hu
theorem atC_zero (u : Value) (sp : Spans) (neg : Bool) : atC u ⟨sp, neg, 0⟩ = [u, .bool neg, .int .u64 0, .int .u64 0, .int .u64 0, .int .u64 0] := by simp [atC, wd]
theorem add_any (p : Nat) (l : List Pc) (v : Value) (us : List Value) (L : List Atm) (u : Value) (sp : Spans) (neg : Bool) (w : World) (h : PIs w p l v us L) (hu : w.ownsRow (p + 1) 128 2 u sp.length (spC sp)) (hf : L.length + l.length ≤ 256) :
    Calls Try.prog 105 #[.pointer (some ⟨p, 0, none⟩), .agg #[u, .bool neg, .int .u64 0, .int .u64 0, .int .u64 0, .int .u64 0]] w (OutP p v L w (.ok (.set sp neg, l))) := by
  obtain ⟨Au, cu, rfl, -, -, -⟩ := own_rdg hu
  obtain ⟨W0, hW0⟩ : ∃ W0, W0 = w.alloc (.cells #[.slice Au sp.length cu, .bool neg, .int .u64 0, .int .u64 0, .int .u64 0, .int .u64 0] 124) := ⟨_, rfl⟩
  have hb0 : RowKit.Below w.heap.size w W0 := by rw [hW0]; exact (RowKit.Below.refl _ w).alloc (Nat.le_refl _) _
  have h0 := h.below hb0
  have hu0 : W0.ownsRow (p + 1) 128 2 (.slice Au sp.length cu) sp.length (spC sp) := own_mv (S := fun _ => False) hu (Mv.of_below hb0 _) fun _ _ f => f
  have hs0 : W0.heap.size = w.heap.size + 1 := by rw [hW0]; simp
  have hone0 : W0.heap[w.heap.size]? = some (.cells #[.slice Au sp.length cu, .bool neg, .int .u64 0, .int .u64 0, .int .u64 0, .int .u64 0] 124 (0, 0)) := by rw [hW0]; exact heap_alloc_new _ _
  obtain ⟨W, hW⟩ : ∃ W, W = W0.alloc (.cells #[.int .u64 0, .int .u64 0, .int .u64 0, .int .u64 0, .int .u64 0, .int .u64 0, .int .u64 0, .int .u64 0, .bool false] 85) := ⟨_, rfl⟩
  have hz : Zs W0 W := by rw [hW]; exact Zs.mk' W0
  have h1 := hz.pis h0
  have hu1 : W.ownsRow (p + 1) 128 2 (.slice Au sp.length cu) sp.length (spC sp) := own_mv (S := fun _ => False) hu0 (Mv.of_below hz.below _) fun _ _ f => f
  obtain ⟨pb, off, c, hb, hp, hlc, hc, hr⟩ := h1.box
  have b1 := cell_blk hb 1
  simp only [List.getElem?_toArray, List.getElem?_cons_succ, List.getElem?_cons_zero] at b1
  have hone1 : W.heap[w.heap.size]? = some (.cells #[.slice Au sp.length cu, .bool neg, .int .u64 0, .int .u64 0, .int .u64 0, .int .u64 0] 124 (0, 0)) := (hz.below.block _ (blk_lt hone0)).trans hone0
  have o0 := cell_blk hone1 0
  have o1 := cell_blk hone1 1
  have o2 := cell_blk hone1 2
  have o3 := cell_blk hone1 3
  have o4 := cell_blk hone1 4
  have o5 := cell_blk hone1 5
  simp only [List.getElem?_toArray, List.getElem?_cons_succ, List.getElem?_cons_zero] at o0 o1 o2 o3 o4 o5
  have hn : L.length < 256 := by
    have : 0 < l.length := List.length_pos_iff.2 h.ok.ne
    omega
  have hl1 : (L ++ [(⟨sp, neg, 0⟩ : Atm)]).length + l.length ≤ 257 := by simp; omega
  have hone : ∀ x ∈ ([.slice Au sp.length cu, .bool neg, .int .u64 0, .int .u64 0, .int .u64 0, .int .u64 0] : List Value), x.oneCell' = true := by
    intro x hx
    simp only [List.mem_cons, List.not_mem_nil, or_false] at hx
    rcases hx with rfl | rfl | rfl | rfl | rfl | rfl <;> rfl
  obtain ⟨i0, hi, hz0, hz1, hz2⟩ := info_g infoAtom
  have HONE := Lib.hid hone
  have HO := Lib.hid (fun W => only_lit L.length hn W)
  have hpw : p < W.heap.size := h1.lt
  have hgo : ∀ k, v.ownBlock = some k → k < w.heap.size := fun k hk => (h.at'.row.lt k hk).2
  -- the atoms behind the append
  have hkey : ∀ (w1 : World) (g cap : Nat), w1.ownsRow (p + 1) 124 6 (.slice (some ⟨g, 0, none⟩) (L.length + 1) cap) (L.length + 1) (atsC us L ++ [.slice Au sp.length cu, .bool neg, .int .u64 0, .int .u64 0, .int .u64 0, .int .u64 0]) → Mv (fun k => v.ownBlock = some k) W w1 → (v.ownBlock = some g ∨ W.heap.size ≤ g) →
      w1.heap[p]? = some (.cells #[.slice (some ⟨pb, off, none⟩) l.length c, v] 112 (0, 0)) ∧ w1.heap[W0.heap.size]? = some (.cells zP 85 (0, 0)) ∧
      PIs (w1.setCell ⟨p, 1, none⟩ (.slice (some ⟨g, 0, none⟩) (L.length + 1) cap)) p l (.slice (some ⟨g, 0, none⟩) (L.length + 1) cap) (us ++ [.slice Au sp.length cu]) (L ++ [⟨sp, neg, 0⟩]) ∧ Mvd p v (.slice (some ⟨g, 0, none⟩) (L.length + 1) cap) W (w1.setCell ⟨p, 1, none⟩ (.slice (some ⟨g, 0, none⟩) (L.length + 1) cap)) := fun w1 g cap hown hm hg => by
    rw [← atC_zero (.slice Au sp.length cu) sp neg] at hown
    have hpo : v.ownBlock ≠ some p := own_blk h1.at'.row hb (by decide)
    have kp := (hm.block p hpw hpo).trans hb
    have kz : w1.heap[W0.heap.size]? = some (.cells zP 85 (0, 0)) := (hm.block _ (by have := hz.sz; omega) (fun e => by have := hgo _ e; omega)).trans hz.z
    have m2 : Mv (PM p v) W (w1.setCell ⟨p, 1, none⟩ (.slice (some ⟨g, 0, none⟩) (L.length + 1) cap)) := (hm.mono fun _ _ h => .inr h).setCell (fun _ => .inl rfl) _
    have mset : Mv (fun k => k = p) w1 (w1.setCell ⟨p, 1, none⟩ (.slice (some ⟨g, 0, none⟩) (L.length + 1) cap)) := (Mv.refl (fun k => k = p) w1).setCell (p := ⟨p, 1, none⟩) (fun _ => rfl) _
    refine ⟨kp, kz, ?_, m2, fun k hk => ?_⟩
    · refine h1.turn m2 (fun k hk => ?_) (fun x hx => ?_) (AtIs.snoc h1.at' m2 (fun i u a hu' ha' k hk => ?_) (own_mv hown mset fun k hk e => ?_) (own_mv (own_mv hu1 hm fun k hk => ?_) mset fun k hk e => ?_)) hl1
      · rintro (e | e)
        · omega
        · have := (h1.at'.row.lt k e).1; omega
      · have hx2 := (hm.block p hpw hpo).trans hx
        have := set_blk hx2 1 (.slice (some ⟨g, 0, none⟩) (L.length + 1) cap)
        simpa using this
      · rintro (e | e)
        · subst e; have := ((h1.at'.sp i u a hu' ha').lt k hk).1; omega
        · exact h1.ne_sp hu' ha' hk e
      · subst e; have := (hown.lt k hk).1; omega
      · exact own_own hu1 h1.at'.row (by decide) hk
      · subst e; have := (hu1.lt k hk).1; omega
    · have : g = k := by simpa [Value.ownBlock] using hk
      subst this
      exact hg
  have HK := Lib.hid hkey
  have hrow := h1.at'.row
  have hbase : p + 1 ≤ W.heap.size := by omega
  have HF := Lib.hid (fun (w2 w3 : World) (v' : Value) (h2 : PIs w2 p l v' (us ++ [.slice Au sp.length cu]) (compP (.set sp neg) L).2) m2 (m3 : Mv (fun k => k = W0.heap.size) w2 w3) => hz.fin h0 h2 m2 m3)
  have HW := Lib.hid (show W = (w.alloc (.cells #[.slice Au sp.length cu, .bool neg, .int .u64 0, .int .u64 0, .int .u64 0, .int .u64 0] 124)).alloc (.cells #[.int .u64 0, .int .u64 0, .int .u64 0, .int .u64 0, .int .u64 0, .int .u64 0, .int .u64 0, .int .u64 0, .bool false] 85) by rw [hW, hW0])
  have HS0 := Lib.hid hs0
  have HZS := Lib.hid hz.sz
  have HB0 := Lib.hid hb0
  have HPL := Lib.hid h.lt
  clear hW0 hW hb0 h0 hu0 hone0 hz h1 hu1 hb hp hlc hc hr hone1 hone hgo hkey h hu hf hl1 hs0
  obtain ⟨n, hnn⟩ : ∃ n, n = L.length := ⟨_, rfl⟩
  have HN := Lib.hid hnn
  rw [← hnn] at hrow HO HK hn
  clear hnn
  go_enter Try.func105, Try.ntmps105
  go_wp2_with fail
  rw [← HW.out]
  go_region_law (
    (refine step_append_lies _ rfl (.tmp 10) (.tmp 12) 81 rfl (p + 1) 124 i0 (.agg #[.slice none 0 0, .bool false, .int .u64 0, .int .u64 0, .int .u64 0, .int .u64 0]) 6 64 Try.underlying81 hi hz0 hz1 hz2 rfl (by decide) v n (atsC us L) rfl (own_mv (S := fun _ => False) hrow (by repeat (first | exact Mv.refl _ W | refine Mv.alloc ?_ _ | refine Mv.drew ?_)) fun _ _ f => f) ⟨W.heap.size, 0, none⟩ 1 1 [.slice Au sp.length cu, .bool neg, .int .u64 0, .int .u64 0, .int .u64 0, .int .u64 0] rfl rfl (World.news_of_block (by first | exact heap_alloc_new _ _ | exact heap_alloc_new W.drew _ | exact heap_alloc_new W _)) HONE.out (by omega) (by unfold maxLen; omega) (by omega) (Nat.le_trans hbase (Mv.size (S := fun _ => False) (by repeat (first | exact Mv.refl _ W | refine Mv.alloc ?_ _ | refine Mv.drew ?_)))) _ rfl ?_
     intro g cap w1 hown hgrow hg hlt
     have hmv : Mv (fun k => v.ownBlock = some k) W w1 := Mv.grown (w1 := _) (by repeat (first | exact Mv.refl _ W | refine Mv.alloc ?_ _ | refine Mv.drew ?_)) hgrow (fun k _ h => h)
     obtain ⟨kp, kz, hP, hM⟩ := HK.out w1 g cap hown hmv (hg.imp id fun e => by rw [e]; exact Mv.size (S := fun _ => False) (by repeat (first | exact Mv.refl _ W | refine Mv.alloc ?_ _ | refine Mv.drew ?_)))
     have kp1 := cell_blk kp 1
     have ep1 := free_blk kp 1
     simp only [List.getElem?_toArray, List.getElem?_cons_succ, List.getElem?_cons_zero] at kp1
     have KZ := Lib.hid kz; have HP := Lib.hid hP; have HM := Lib.hid hM; clear kz hP hM kp hown hgrow hg hmv hlt))
  all_goals
    go_wp2_with fail
    obtain ⟨w1s, hw1s⟩ : ∃ x, x = w1.setCell ⟨p, 1, none⟩ (.slice (some ⟨g, 0, none⟩) (n + 1) cap) := ⟨_, rfl⟩
    rw [← hw1s] at HP HM ⊢
    have KZ1 := Lib.hid (show w1s.heap[W0.heap.size]? = some (.cells zP 85 (0, 0)) by rw [hw1s]; exact (((Mv.refl (fun k => k = p) w1).setCell (p := ⟨p, 1, none⟩) (fun _ => rfl) _).block _ (blk_lt KZ.out) (by have := HS0.out; have := HPL.out; omega)).trans KZ.out)
    clear hw1s KZ
    refine (HO.out _).mono ?_
    rintro e w2 ⟨rfl, hb2⟩
    have HZ4 := Lib.hid (show ∀ W', Mv (fun k => w2.heap.size ≤ k) w2 W' → W'.heap[w.heap.size + 1]? = some (.cells zP 85 (0, 0)) ∧ Below w1s.heap.size w1s W' from fun W' m => by
      have k1 := blk_lt KZ1.out
      have k2 := hb2.size
      have e1 := HS0.out
      refine ⟨?_, hb2.trans ((m.belowB (Nat.le_refl _) fun k hk h => by omega).mono k2)⟩
      rw [← e1]
      exact (m.block _ (by omega) (by omega)).trans ((hb2.block _ k1).trans KZ1.out))
    clear hb2 KZ1
    go_wp2_with (first
      | (refine wpList_store_agg (o := ⟨none, _, _, _, _, _⟩) ?_ 85 (.tmp 4) (.tmp 25) ?_ (w.heap.size + 1) 0 (partL ⟨2 ^ n, 2 ^ n, false⟩) ?_ ?_ 85 zP (HZ4.out _ (by repeat (first | exact Mv.refl _ w2 | refine Mv.alloc ?_ _ | refine Mv.setCell ?_ (fun h => absurd h (Nat.lt_irrefl _)) _ | refine Mv.drew ?_))).1 ?_ ?_ ?_ ?_; rfl; rfl; rfl; rfl; kernel_rfl; (show 0 + 9 ≤ 9; decide); exact partL_one _; intro w9 hw9 hm9 hs9; rw [spl9 _ rfl] at hw9)
      | fail)
    refine bodyPost_cell rfl (w.heap.size + 1) 85 (partL ⟨2 ^ n, 2 ^ n, false⟩).toArray rfl hw9 (by kernel_rfl) (by kernel_rfl) rfl ?_
    refine OutP.before HB0.out ?_
    have hN := HN.out
    subst hN
    have fin := fun (W' : World) (m : Mv (fun k => w2.heap.size ≤ k) w2 W') (m9 : Mv (fun k => k = W0.heap.size) W' w9) => HF.out W' w9 _ (HP.out.below (HZ4.out _ m).2) (HM.out.trans (Mvd.of_below (HZ4.out _ m).2)) m9
    rw [← HS0.out] at hm9
    exact fin _ (by repeat (first | exact Mv.refl _ w2 | refine Mv.alloc ?_ _ | refine Mv.setCell ?_ (fun h => absurd h (Nat.lt_irrefl _)) _ | refine Mv.drew ?_)) hm9
end
end Go.Proofs.Ytfohmepjedehfab
