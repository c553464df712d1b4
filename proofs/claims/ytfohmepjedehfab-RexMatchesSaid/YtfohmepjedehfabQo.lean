/-
  An atom of a pattern, its groups given.
-/
import Derived.Test.YtfohmepjedehfabQn
namespace Go.Proofs.Ytfohmepjedehfab
set_option linter.unusedVariables false
set_option linter.unusedSimpArgs false
open Go.RowKit
/-- Groups, n of them around, read as grp says. -/
def GC (grp : List Pc → Rs Re) (n : Nat) : Prop := GrpOk grp ∧ ∀ (p : Nat) (l : List Pc) (v : Value) (us : List Value) (L : List Atm) (w : World), PIs w p l v us L → nowP l = 40 → Calls Try.prog 102 #[.pointer (some ⟨p, 0, none⟩), .int .i64 (n : Nat)] w (OutP p v L w (grp l))
section
set_option maxHeartbeats 1600000
set_option maxRecDepth 100000
theorem atom_any (grp : List Pc → Rs Re) (n : Nat) (hG : GC grp n) (p : Nat) (l : List Pc) (v : Value) (us : List Value) (L : List Atm) (w : World) (h : PIs w p l v us L) :
    Calls Try.prog 97 #[.pointer (some ⟨p, 0, none⟩), .int .i64 (n : Nat)] w (OutP p v L w (atomP grp l)) := by
  obtain ⟨R, hR⟩ : ∃ R, R = atomP grp l := ⟨_, rfl⟩
  rw [← hR]
  unfold atomP at hR
  obtain ⟨W, hW⟩ : ∃ W, W = w.alloc (.cells #[.int .u64 0, .int .u64 0, .int .u64 0, .int .u64 0, .int .u64 0, .int .u64 0, .int .u64 0, .int .u64 0, .bool false] 85) := ⟨_, rfl⟩
  have hz : Zs w W := by rw [hW]; exact Zs.mk' w
  have h1 := hz.pis h
  have HW := Lib.hid hW; have HZ := Lib.hid hz; have H := Lib.hid h
  clear hW hz
  clear h
  have hnow := now_any p l v us L W h1
  by_cases h40 : nowP l = 40
  · rw [if_pos h40] at hR
    have hc := hG.2 p l v us L W h1 h40
    rw [← hR] at hc
    rw [h40] at hnow
    have HN := Lib.hid hnow; have HC := Lib.hid hc; clear hnow hc h1 hR h40 hG
    go_enter Try.func97, Try.ntmps97
    go_wp2_with fail
    rw [← HW.out]
    go_wp2_with fail
    refine HN.out.mono ?_
    rintro e w1 ⟨rfl, rfl⟩
    go_wp2_with fail
    refine HC.out.mono ?_
    intro e w2 ho
    cases R with
    | ok r =>
      obtain ⟨t, l'⟩ := r
      obtain ⟨v', us', rfl, h2, hm2⟩ := ho
      have hq9 := hm2
      go_wp2_with (first
        | (refine wpList_store_agg (o := ⟨none, _, _, _, _, _⟩) ?_ 85 (.tmp 4) (.tmp 13) ?_ (w.heap.size) 0 (partL (compP t L).1) ?_ ?_ 85 zP (HZ.out.at' H.out hq9.mv) ?_ ?_ ?_ ?_; rfl; rfl; rfl; rfl; kernel_rfl; (show 0 + 9 ≤ 9; decide); exact partL_one _; intro w9 hw9 hm9 hs9; rw [spl9 _ rfl] at hw9)
        | fail)
      refine bodyPost_cell rfl (w.heap.size) 85 (partL (compP t L).1).toArray rfl hw9 (by kernel_rfl) (by kernel_rfl) rfl ?_
      exact HZ.out.fin H.out h2 hq9 hm9
    | error f =>
      obtain ⟨rfl, hm2⟩ := ho
      have HM2 := Lib.hid hm2; clear hm2
      unfold flE
      go_wp2
      exact ⟨rfl, rfl, HZ.out.err (HM2.out)⟩
  rw [if_neg h40] at hR
  by_cases h91 : nowP l = 91
  · rw [if_pos h91] at hR
    have hc := class_any p l v us L W h1 h91
    rw [← hR] at hc
    rw [h91] at hnow
    have HN := Lib.hid hnow; have HC := Lib.hid hc; clear hnow hc h1 hR h40 h91 hG
    go_enter Try.func97, Try.ntmps97
    go_wp2_with fail
    rw [← HW.out]
    go_wp2_with fail
    refine HN.out.mono ?_
    rintro e w1 ⟨rfl, rfl⟩
    go_wp2_with fail
    refine HC.out.mono ?_
    intro e w2 ho
    cases R with
    | ok r =>
      obtain ⟨t, l'⟩ := r
      obtain ⟨v', us', rfl, h2, hm2⟩ := ho
      have hq9 := hm2
      go_wp2_with (first
        | (refine wpList_store_agg (o := ⟨none, _, _, _, _, _⟩) ?_ 85 (.tmp 4) (.tmp 17) ?_ (w.heap.size) 0 (partL (compP t L).1) ?_ ?_ 85 zP (HZ.out.at' H.out hq9.mv) ?_ ?_ ?_ ?_; rfl; rfl; rfl; rfl; kernel_rfl; (show 0 + 9 ≤ 9; decide); exact partL_one _; intro w9 hw9 hm9 hs9; rw [spl9 _ rfl] at hw9)
        | fail)
      refine bodyPost_cell rfl (w.heap.size) 85 (partL (compP t L).1).toArray rfl hw9 (by kernel_rfl) (by kernel_rfl) rfl ?_
      exact HZ.out.fin H.out h2 hq9 hm9
    | error f =>
      obtain ⟨rfl, hm2⟩ := ho
      have HM2 := Lib.hid hm2; clear hm2
      unfold flE
      go_wp2
      exact ⟨rfl, rfl, HZ.out.err (HM2.out)⟩
  rw [if_neg h91] at hR
  by_cases h92 : nowP l = 92
  · rw [if_pos h92] at hR
    have hc := escape_any p l v us L W h1 h92
    rw [← hR] at hc
    rw [h92] at hnow
    have HN := Lib.hid hnow; have HC := Lib.hid hc; clear hnow hc h1 hR h40 h91 h92 hG
    go_enter Try.func97, Try.ntmps97
    go_wp2_with fail
    rw [← HW.out]
    go_wp2_with fail
    refine HN.out.mono ?_
    rintro e w1 ⟨rfl, rfl⟩
    go_wp2_with fail
    refine HC.out.mono ?_
    intro e w2 ho
    cases R with
    | ok r =>
      obtain ⟨t, l'⟩ := r
      obtain ⟨v', us', rfl, h2, hm2⟩ := ho
      have hq9 := hm2
      go_wp2_with (first
        | (refine wpList_store_agg (o := ⟨none, _, _, _, _, _⟩) ?_ 85 (.tmp 4) (.tmp 21) ?_ (w.heap.size) 0 (partL (compP t L).1) ?_ ?_ 85 zP (HZ.out.at' H.out hq9.mv) ?_ ?_ ?_ ?_; rfl; rfl; rfl; rfl; kernel_rfl; (show 0 + 9 ≤ 9; decide); exact partL_one _; intro w9 hw9 hm9 hs9; rw [spl9 _ rfl] at hw9)
        | fail)
      refine bodyPost_cell rfl (w.heap.size) 85 (partL (compP t L).1).toArray rfl hw9 (by kernel_rfl) (by kernel_rfl) rfl ?_
      exact HZ.out.fin H.out h2 hq9 hm9
    | error f =>
      obtain ⟨rfl, hm2⟩ := ho
      have HM2 := Lib.hid hm2; clear hm2
      unfold flE
      go_wp2
      exact ⟨rfl, rfl, HZ.out.err (HM2.out)⟩
  rw [if_neg h92] at hR
  have hnil : ∀ W : World, W.ownsRow (p + 1) 128 2 (.slice none 0 0) 0 [] := fun W => ⟨rfl, .inl ⟨rfl, rfl⟩⟩
  by_cases h46 : nowP l = 46
  · rw [if_pos h46] at hR
    have hn1 : nowP l ≠ -1 := by rw [h46]; decide
    have hp := pass_any p l v us L W h1 hn1
    have hf : L.length + l.tail.length ≤ 256 := by have := tail_lt h1.ok; have := h1.few; omega
    have HA := Lib.hid (fun W (k : PIs W p l.tail v us L) => add_any p _ v us L (.slice none 0 0) [] true W k (hnil W) hf)
    rw [h46] at hnow
    have HN := Lib.hid hnow; have HP := Lib.hid hp; have HR := Lib.hid hR; clear hnow hp h1 hR h40 h91 h92 h46 hG hn1 hf hnil
    go_enter Try.func97, Try.ntmps97
    go_wp2_with fail
    rw [← HW.out]
    go_wp2_with fail
    refine HN.out.mono ?_
    rintro e w1 ⟨rfl, rfl⟩
    go_wp2_with fail
    refine HP.out.mono ?_
    rintro e w2 ⟨rfl, h2, hm2⟩
    have H2 := Lib.hid h2; have HM2 := Lib.hid hm2; clear h2 hm2
    go_wp2_with fail
    refine (HA.out _ H2.out).mono ?_
    rintro e w3 ⟨v', us', rfl, h3, hm3⟩
    have hq9 := Mvd.then HM2.out hm3
    go_wp2_with (first
      | (refine wpList_store_agg (o := ⟨none, _, _, _, _, _⟩) ?_ 85 (.tmp 4) (.tmp 28) ?_ (w.heap.size) 0 (partL (compP (.set [] true) L).1) ?_ ?_ 85 zP (HZ.out.at' H.out hq9.mv) ?_ ?_ ?_ ?_; rfl; rfl; rfl; rfl; kernel_rfl; (show 0 + 9 ≤ 9; decide); exact partL_one _; intro w9 hw9 hm9 hs9; rw [spl9 _ rfl] at hw9)
      | fail)
    refine bodyPost_cell rfl (w.heap.size) 85 (partL (compP (.set [] true) L).1).toArray rfl hw9 (by kernel_rfl) (by kernel_rfl) rfl ?_
    rw [HR.out]
    exact HZ.out.fin H.out h3 hq9 hm9
  rw [if_neg h46] at hR
  have g40 : (nowP l == 40) = false := by rw [beq_eq_false_iff_ne]; exact h40
  have g91 : (nowP l == 91) = false := by rw [beq_eq_false_iff_ne]; exact h91
  have g92 : (nowP l == 92) = false := by rw [beq_eq_false_iff_ne]; exact h92
  have g46 : (nowP l == 46) = false := by rw [beq_eq_false_iff_ne]; exact h46
  clear h40 h91 h92 h46 hG
  have hle := h1.now_le
  have H1 := Lib.hid h1
  have HNO := Lib.hid (fun W' (m : Below W.heap.size W W') => must_no p l v us L W' (H1.out.below m))
  by_cases h0 : 0 ≤ nowP l
  · have hc := signs_any (nowP l) W h0 hle
    cases hk : specialP (nowP l) with
    | true =>
      rw [if_neg (by rw [hk]; simp)] at hR
      rw [hk] at hc
      have HC := Lib.hid hc; have HN := Lib.hid hnow; have HR := Lib.hid hR; clear hc hnow hR hk h1 hnil
      generalize nowP l = c at *
      generalize atP l = a at HNO HR
      go_enter Try.func97, Try.ntmps97
      go_wp2_with fail
      rw [← HW.out]
      go_wp2_with fail
      refine HN.out.mono ?_
      rintro e w1 ⟨rfl, rfl⟩
      go_wp2_with fail
      refine HC.out.mono ?_
      rintro e w3 ⟨rfl, hb3⟩
      have HB3 := Lib.hid hb3; clear hb3
      go_wp2_with fail
      refine (HNO.out _ HB3.out).mono ?_
      rintro e w4 ⟨rfl, rfl⟩
      go_wp2
      rw [HR.out]
      exact ⟨rfl, rfl, HZ.out.err (Mv.of_below HB3.out _)⟩
    | false =>
      rw [if_pos (by rw [decide_eq_true h0, hk]; rfl)] at hR
      have hn1 : nowP l ≠ -1 := by omega
      rw [hk] at hc
      have hf : L.length + l.tail.length ≤ 256 := by have := tail_lt h1.ok; have := h1.few; omega
      have HPP := Lib.hid (fun W' (m : Below W.heap.size W W') => pass_any p l v us L W' (H1.out.below m) hn1)
      have HYY := Lib.hid (fun W => must_yes p W)
      have HA := Lib.hid (fun c W u (k : PIs W p l.tail v us L) k2 => add_any p _ v us L u [(c, c)] false W k k2 hf)
      have HC := Lib.hid hc; have HN := Lib.hid hnow; have HR := Lib.hid hR; clear hc hnow hR hk hn1 h1 hnil hf
      generalize nowP l = c at *
      go_enter Try.func97, Try.ntmps97
      go_wp2_with fail
      rw [← HW.out]
      go_wp2_with fail
      refine HN.out.mono ?_
      rintro e w1 ⟨rfl, rfl⟩
      go_wp2_with fail
      refine HC.out.mono ?_
      rintro e w3 ⟨rfl, hb3⟩
      have HB3 := Lib.hid hb3; clear hb3
      go_wp2_with fail
      refine (HYY.out _).mono ?_
      rintro e w4 ⟨rfl, rfl⟩
      go_wp2_with fail
      refine (HPP.out _ HB3.out).mono ?_
      rintro e w5 ⟨rfl, h5, hm5⟩
      have hb : RowKit.Below w5.heap.size w5 (w5.alloc (.cells #[.int .i32 c, .int .i32 c] 128)) := (RowKit.Below.refl _ w5).alloc (Nat.le_refl _) _
      have hlt5 := h5.lt
      have HAA := Lib.hid (HA.out c _ _ (h5.below hb) ((own_fresh (w := w5) (e := 128) (size := 2) (n := 1) (xs := [.int .i32 c, .int .i32 c]) rfl (by decide)).lower (by omega)))
      have HM5 := Lib.hid ((Mvd.of_below (p := p) (v := v) HB3.out).trans ((Mvd.box hm5).trans (Mvd.of_below hb))); clear hm5 h5 hb HA
      go_wp2_with fail
      refine HAA.out.mono ?_
      rintro e w6 ⟨v', us', rfl, h6, hm6⟩
      have hq9 := HM5.out.trans hm6
      go_wp2_with (first
        | (refine wpList_store_agg (o := ⟨none, _, _, _, _, _⟩) ?_ 85 (.tmp 4) (.tmp 46) ?_ (w.heap.size) 0 (partL (compP (.set [(c, c)] false) L).1) ?_ ?_ 85 zP (HZ.out.at' H.out hq9.mv) ?_ ?_ ?_ ?_; rfl; rfl; rfl; rfl; kernel_rfl; (show 0 + 9 ≤ 9; decide); exact partL_one _; intro w9 hw9 hm9 hs9; rw [spl9 _ rfl] at hw9)
        | fail)
      refine bodyPost_cell rfl (w.heap.size) 85 (partL (compP (.set [(c, c)] false) L).1).toArray rfl hw9 (by kernel_rfl) (by kernel_rfl) rfl ?_
      rw [HR.out]
      exact HZ.out.fin H.out h6 hq9 hm9
  · rw [if_neg (by rw [decide_eq_false h0]; simp)] at hR
    have HN := Lib.hid hnow; have HR := Lib.hid hR; clear hnow hR h1 hnil
    have HN2 := Lib.hid (HNO.out W (RowKit.Below.refl _ _))
    have h0' : nowP l < 0 := by omega
    generalize nowP l = c at *
    generalize atP l = a at HN2 HR
    clear HNO
    go_enter Try.func97, Try.ntmps97
    go_wp2_with fail
    rw [← HW.out]
    go_wp2_with fail
    refine HN.out.mono ?_
    rintro e w1 ⟨rfl, rfl⟩
    go_wp2_with fail
    refine HN2.out.mono ?_
    rintro e w4 ⟨rfl, rfl⟩
    go_wp2
    rw [HR.out]
    exact ⟨rfl, rfl, HZ.out.err (Mv.refl _ _)⟩
end
end Go.Proofs.Ytfohmepjedehfab
