/-
  A log's Sync and Roll; why so many bytes may not be written.
  A log's Roll; why so many bytes may not be written.
-/
import Derived.BigQuiet
import Derived.Deep.QuietTactic
import Derived.Test.YtnmbjhpecblioaaGreatDoorWh
namespace Go.Proofs.YtnmbjhpecblioaaGreatDoor
set_option linter.unusedVariables false
set_option linter.unusedSimpArgs false
section
set_option linter.unusedVariables false
set_option linter.unusedSimpArgs false
open Go.Maps Go.RowKit
/-- What a call of a log comes to. -/
def LogOut (w : World) (lb db mb room : Nat) (es : List Ent) (c : Int) (g : Lg) (e : Ending) (w' : World) : Prop :=
  e = .returned (.int .i64 c) ∧ ∃ es', LogE w' lb db mb room es' g.2.1 g.2.2.1 g.2.2.2 ∧ es'.map val = g.1 ∧ Mv (footW lb db mb es) w w' ∧ ∀ k, foot db mb es' k → foot db mb es k ∨ w.heap.size ≤ k
section
variable {w w' w1 : World} {lb db mb room : Nat} {es : List Ent} {seg cnt sure : Nat} {c : Int} {g : Lg} {e : Ending}
theorem LogOut.pre (h : LogOut w1 lb db mb room es c g e w') (hb : Below w.heap.size w w1) : LogOut w lb db mb room es c g e w' := by
  obtain ⟨h1, es', h2, h3, h4, h5⟩ := h
  refine ⟨h1, es', h2, h3, (Mv.of_below hb _).trans h4 (fun _ _ hk => hk), fun k hk => ?_⟩
  rcases h5 k hk with h | h
  · exact .inl h
  · exact .inr (Nat.le_trans hb.size h)
theorem LogOut.same (h : LogE w lb db mb room es seg cnt sure) : LogOut w lb db mb room es c (es.map val, seg, cnt, sure) (.returned (.int .i64 c)) w := ⟨rfl, es, h, rfl, Mv.refl _ _, fun k hk => .inl hk⟩
/-- A call of the disk below a log. -/
theorem LogE.mut (h : LogE w lb db mb room es seg cnt sure) {r : Int × List Fl} (hM : MutOut w db mb room es r e w') (hn : Named r.2) :
    e = .returned (.int .i64 r.1) ∧ ∃ es', LogE w' lb db mb room es' seg cnt sure ∧ es'.map val = r.2 ∧ Mv (footW lb db mb es) w w' ∧ ∀ k, foot db mb es' k → foot db mb es k ∨ w.heap.size ≤ k := by
  obtain ⟨h1, es', h2, h3, h4, h5⟩ := hM
  have hm : Mv (footW lb db mb es) w w' := h4.mono fun k _ hk => .inr hk
  refine ⟨h1, es', ⟨(h4.block lb (blk_lt h.box) h.off).trans h.box, h2, by rw [h3]; exact hn, fun hk => ?_, h.seg1, h.tab.mv hm fun k hk => ?_⟩, h3, hm, h5⟩
  · rcases h5 lb hk with hk | hk
    · exact h.off hk
    · have := blk_lt h.box; omega
  · rcases hk with rfl | hk
    · exact .inl (.inl rfl)
    · rcases h5 k hk with hk | hk
      · exact .inl (.inr hk)
      · exact .inr hk
/-- A number of a log written. -/
theorem LogE.set (h : LogE w lb db mb room es seg cnt sure) {j : Nat} {u : Value} {seg' cnt' sure' : Nat} (hs : 1 ≤ seg' ∧ seg' ≤ 99999999)
    (hb : (w.setCell ⟨lb, j, none⟩ u).heap[lb]? = some (logO db seg' cnt' sure')) : LogE (w.setCell ⟨lb, j, none⟩ u) lb db mb room es seg' cnt' sure' :=
  ⟨hb, h.disk.moved fun k hk => set_other _ _ _ _ fun e => h.off (by rw [← e]; exact hk), h.named, h.off, hs, h.tab.mv ((Mv.refl _ w).setCell (p := ⟨lb, j, none⟩) (fun _ => .inl rfl) u) fun k hk => .inl hk⟩
theorem LogE.setSeg (h : LogE w lb db mb room es seg cnt sure) {n : Nat} (hs : 1 ≤ n ∧ n ≤ 99999999) : LogE (w.setCell ⟨lb, 1, none⟩ (.int .i64 (n : Nat))) lb db mb room es n cnt sure := h.set hs (set_blk h.box 1 _)
theorem LogE.setCnt (h : LogE w lb db mb room es seg cnt sure) (n : Nat) : LogE (w.setCell ⟨lb, 2, none⟩ (.int .i64 (n : Nat))) lb db mb room es seg n sure := h.set h.seg1 (set_blk h.box 2 _)
theorem LogE.setSure (h : LogE w lb db mb room es seg cnt sure) (n : Nat) : LogE (w.setCell ⟨lb, 3, none⟩ (.int .i64 (n : Nat))) lb db mb room es seg cnt n := h.set h.seg1 (set_blk h.box 3 _)
theorem LogE.drewN (h : LogE w lb db mb room es seg cnt sure) (q : Nat) : LogE (w.drewN q) lb db mb room es seg cnt sure := h.below (below_drewN (Below.refl _ _) q)
end
section
set_option maxHeartbeats 1600000
set_option maxRecDepth 100000
variable {w : World} {lb db mb room : Nat} {es : List Ent} {seg cnt sure : Nat}
theorem wsync_any (h : LogE w lb db mb room es seg cnt sure) : Calls Tryz.prog 30 #[.pointer (some ⟨lb, 0, none⟩)] w (LogOut w lb db mb room es 0 (wsyncP (es.map val, seg, cnt, sure))) := by
  have HMD := Lib.hid (wmade_any h)
  have hsg := h.seg1
  have HT := Lib.hid (fun (W' : World) (hb : Below w.heap.size w W') => title_any (seg : Int) (by omega) (by omega) W' (h.below hb).tab.now)
  have HSY := Lib.hid (fun (W' : World) (hb : Below w.heap.size w W') => sync_any (h.below hb).disk (titleN seg) (by have := title_le seg; unfold maxLen; omega))
  have HS := Lib.hid (fun (W' : World) (hb : Below w.heap.size w W') => And.intro (h.below hb).cells.1 (h.below hb).cells.2.1)
  have hcode : (syncD (es.map val) (titleN seg)).1 = 0 ∨ (syncD (es.map val) (titleN seg)).1 = 4 := by
    unfold syncD
    cases lookL (es.map val) (titleN seg) <;> simp
  have hnm := named_sync h.named (titleN seg)
  obtain ⟨c0, c1, c2, c3⟩ := h.cells
  have HBc := Lib.hid (Below.refl w.heap.size w)
  have H := Lib.hid h
  unfold wsyncP
  simp only
  generalize syncD (es.map val) (titleN seg) = R at HSY hcode hnm ⊢
  obtain ⟨cd, LL⟩ := R
  simp only at hcode hnm ⊢
  have HNM := Lib.hid hnm; have HCO := Lib.hid hcode
  clear h hcode hnm
  go_enter Tryz.func30, Tryz.ntmps30
  go_wp2_with fail
  with_reducible refine HMD.out.mono ?_
  rintro e w1 ⟨rfl, rfl⟩
  go_wp2_with fail
  go_region_held3 (fun W' => W'.cell? ⟨lb, 0, none⟩ = some (.pointer (some ⟨db, 0, none⟩)) ∧ W'.cell? ⟨lb, 1, none⟩ = some (.int .i64 (seg : Nat))) (first | exact And.intro HL2.out.cells.1 HL2.out.cells.2.1 | exact HS.out _ HBc.out | exact HS.out _ (below_drewN HBc.out _)) (first
    | (go_at_call 12; go_must (refine (HT.out _ (by first | exact HBc.out | exact below_drewN HBc.out _)).mono ?_; rintro e wq ⟨rfl, hbq⟩; (try (have hq1 := undrewB hbq; clear hbq; have hbq := hq1; clear hq1)); have hq1 := HBc.out.trans (hbq.mono HBc.out.size); have HBc := Lib.hid hq1; clear hq1 hbq))
    | (go_at_call 19; go_must (refine (HSY.out _ (by first | exact HBc.out | exact below_drewN HBc.out _)).mono ?_; rintro e wq hM; obtain ⟨rfl, es2, L2, v2, m2, f2⟩ := (H.out.below (by first | exact HBc.out | exact below_drewN HBc.out _)).mut hM HNM.out; have HL2 := Lib.hid L2; have HV2 := Lib.hid v2; have HM2 := Lib.hid ((Mv.of_below (by first | exact HBc.out | exact below_drewN HBc.out _) _).trans m2 (fun _ _ hk => hk)); have HF2 := Lib.hid (fun k hk => (f2 k hk).imp id (Nat.le_trans HBc.out.size)); clear hM L2 v2 m2 f2))
    | fail)
  all_goals
    rcases HCO.out with rfl | rfl
    all_goals
      obtain ⟨d0, d1, d2, d3⟩ := HL2.out.cells
      obtain ⟨g1, g2, g3⟩ := HL2.out.free
      go_wp2
      try go_region
      go_wp2
      go_ret
      refine ⟨rfl, es2, ?_, HV2.out, ?_, HF2.out⟩
      · first | exact HL2.out.setSure cnt | exact (HL2.out.drewN _).setSure cnt
      · first | exact HM2.out.setCell (p := ⟨lb, 3, none⟩) (fun _ => .inl rfl) _ | exact (HM2.out.drewN _).setCell (p := ⟨lb, 3, none⟩) (fun _ => .inl rfl) _
end
end
section
set_option linter.unusedVariables false
set_option linter.unusedSimpArgs false
open Go.Maps Go.RowKit
section
set_option maxHeartbeats 1600000
set_option maxRecDepth 100000
variable {w : World} {lb db mb room : Nat} {es : List Ent} {seg cnt sure : Nat}
theorem roll_any (h : LogE w lb db mb room es seg cnt sure) : Calls Tryz.prog 31 #[.pointer (some ⟨lb, 0, none⟩)] w (LogOut w lb db mb room es (wrollP (es.map val, seg, cnt, sure)).1 (wrollP (es.map val, seg, cnt, sure)).2) := by
  have HMD := Lib.hid (wmade_any h)
  have hsg := h.seg1
  obtain ⟨c0, c1, c2, c3⟩ := h.cells
  have HSY := Lib.hid (wsync_any h)
  have hlw : lenW (wsyncP (es.map val, seg, cnt, sure)).1 seg = lenW (es.map val) seg := pairs_lenW (sync_pairs (distinct (by rw [List.pairwise_map]; exact h.disk.srt)) _) seg
  have H := Lib.hid h
  clear h
  unfold wrollP
  simp only
  by_cases hm : seg = 99999999
  · rw [if_pos hm]
    have hm2 : ((seg : Int) == (99999999 : Int)) = true := by rw [hm]; rfl
    have HM := Lib.hid hm; clear hm
    go_enter Tryz.func31, Tryz.ntmps31
    go_wp2_with fail
    with_reducible refine HMD.out.mono ?_
    rintro e w1 ⟨rfl, rfl⟩
    go_wp2
    go_ret
    exact LogOut.same H.out
  · rw [if_neg hm]
    have hm2 : ((seg : Int) == (99999999 : Int)) = false := by simp; omega
    have HM := Lib.hid hm; clear hm
    simp only
    unfold wsyncP at HSY hlw ⊢
    simp only at HSY hlw ⊢
    generalize (syncD (es.map val) (titleN seg)).2 = LL at HSY hlw ⊢
    have HLW := Lib.hid hlw; clear hlw
    obtain ⟨M, hM⟩ : ∃ M, M = lenW (es.map val) seg := ⟨_, rfl⟩
    rw [← hM] at HLW ⊢
    clear hM
    by_cases hpos : 0 < M
    · have hp2 : (0 : Int) < (M : Int) := by omega
      rw [if_pos hpos]
      obtain ⟨N, hN⟩ : ∃ N, N = seg + 1 := ⟨_, rfl⟩
      have q1 : IntKind.i64.wrap ((seg : Int) + 1) = (N : Int) := by rw [IntWalk.i64_in _ (by omega)]; omega
      have q2 : (seg : Int) + 1 = (N : Int) := by omega
      rw [← hN]
      have HNN := Lib.hid (show 1 ≤ N ∧ N ≤ 99999999 from ⟨by omega, by have := HM.out; omega⟩)
      clear hN
      have HP := Lib.hid hpos; clear hpos
      go_enter Tryz.func31, Tryz.ntmps31
      go_wp2_with fail
      with_reducible refine HMD.out.mono ?_
      rintro e w1 ⟨rfl, rfl⟩
      go_wp2_with fail
      with_reducible refine HSY.out.mono ?_
      rintro e w2 ⟨rfl, es2, L2, v2, m2, f2⟩
      simp only at L2 v2
      have HL2 := Lib.hid L2; have HV2 := Lib.hid v2; have HM2 := Lib.hid m2; have HF2 := Lib.hid f2
      have hha := has_any L2 seg (by omega)
      rw [v2, HLW.out] at hha
      obtain ⟨d0, d1, d2, d3⟩ := L2.cells
      have HHA := Lib.hid hha
      clear L2 v2 m2 f2 hha
      go_wp2_with fail
      with_reducible refine HHA.out.mono ?_
      rintro e w3 ⟨rfl, hb3⟩
      have HL3 := Lib.hid (HL2.out.below hb3)
      have HM3 := Lib.hid (HM2.out.trans (Mv.of_below hb3 (footW lb db mb es)) (fun _ _ hk => hk))
      obtain ⟨d0, d1, d2, d3⟩ := HL3.out.cells
      obtain ⟨g1, g2, g3⟩ := HL3.out.free
      clear hb3
      go_wp2
      try go_region
      try go_wp2
      go_ret
      refine ⟨rfl, es2, ?_, HV2.out, ?_, HF2.out⟩
      · first | exact HL3.out.setSeg HNN.out | exact (HL3.out.drewN _).setSeg HNN.out
      · first | exact HM3.out.setCell (p := ⟨lb, 1, none⟩) (fun _ => .inl rfl) _ | exact (HM3.out.drewN _).setCell (p := ⟨lb, 1, none⟩) (fun _ => .inl rfl) _
    · have hp2 : ¬ (0 : Int) < (M : Int) := by omega
      rw [if_neg hpos]
      have HP := Lib.hid hpos; clear hpos
      go_enter Tryz.func31, Tryz.ntmps31
      go_wp2_with fail
      with_reducible refine HMD.out.mono ?_
      rintro e w1 ⟨rfl, rfl⟩
      go_wp2_with fail
      with_reducible refine HSY.out.mono ?_
      rintro e w2 ⟨rfl, es2, L2, v2, m2, f2⟩
      simp only at L2 v2
      have HL2 := Lib.hid L2; have HV2 := Lib.hid v2; have HM2 := Lib.hid m2; have HF2 := Lib.hid f2
      have hha := has_any L2 seg (by omega)
      rw [v2, HLW.out] at hha
      obtain ⟨d0, d1, d2, d3⟩ := L2.cells
      have HHA := Lib.hid hha
      clear L2 v2 m2 f2 hha
      go_wp2_with fail
      with_reducible refine HHA.out.mono ?_
      rintro e w3 ⟨rfl, hb3⟩
      have HL3 := Lib.hid (HL2.out.below hb3)
      have HM3 := Lib.hid (HM2.out.trans (Mv.of_below hb3 (footW lb db mb es)) (fun _ _ hk => hk))
      obtain ⟨d0, d1, d2, d3⟩ := HL3.out.cells
      obtain ⟨g1, g2, g3⟩ := HL3.out.free
      clear hb3
      go_wp2
      go_ret
      exact ⟨rfl, es2, HL3.out, HV2.out, HM3.out, HF2.out⟩
theorem takes_any (h : LogE w lb db mb room es seg cnt sure) (n m : Nat) (hn : n ≤ 100000000) (hm : m ≤ 100000000) : Calls Tryz.prog 68 #[.pointer (some ⟨lb, 0, none⟩), .int .i64 (n : Nat), .int .i64 (m : Nat)] w fun e w' => e = .returned (.int .i64 (wtakesP room (es.map val) n m)) ∧ Below w.heap.size w w' := by
  have HS := Lib.hid (fun (W' : World) (hb : Below w.heap.size w W') => (h.below hb).cells.1)
  obtain ⟨c0, c1, c2, c3⟩ := h.cells
  have hr := h.disk.fits
  have HBc := Lib.hid (Below.refl w.heap.size w)
  have H := Lib.hid h
  clear h
  unfold wtakesP
  by_cases hn9 : 99999999 < n
  · rw [if_pos (.inl hn9)]
    have n9 : decide ((99999999 : Int) < (n : Int)) = true := decide_eq_true (by omega)
    go_enter Tryz.func68, Tryz.ntmps68
    go_wp2_with fail
    go_quiet (fail)
    go_wp2
    go_ret
    exact ⟨rfl, below_drewN HBc.out _⟩
  · have n9 : decide ((99999999 : Int) < (n : Int)) = false := decide_eq_false (by omega)
    have HZ1 := Lib.hid (fun (W' : World) (hb : Below w.heap.size w W') => show Calls Tryz.prog 99 #[.pointer (some ⟨db, 0, none⟩)] W' fun e w' => e = .returned (.int .i64 (room : Nat)) ∧ Below W'.heap.size W' w' from by
      refine (droom_any (H.out.below hb).disk).mono ?_
      rintro e w' ⟨rfl, rfl⟩
      exact ⟨rfl, Below.refl _ _⟩)
    have HZ2 := Lib.hid (fun (W' : World) (hb : Below w.heap.size w W') => dsize_any (H.out.below hb).disk)
    obtain ⟨S, hS⟩ : ∃ S, S = lenL (es.map val) := ⟨_, rfl⟩
    rw [← hS] at HZ2 hr ⊢
    have q1 : IntKind.i64.wrap ((room : Int) - (S : Int)) = (room : Int) - (S : Int) := IntWalk.i64_in _ (by omega)
    by_cases hbig : room < S + m
    · rw [if_pos (.inr hbig)]
      have q2 : decide ((room : Int) - (S : Int) < (m : Int)) = true := decide_eq_true (by omega)
      have HN9 := Lib.hid hn9; have HBG := Lib.hid hbig
      clear hn9 hbig hS
      go_enter Tryz.func68, Tryz.ntmps68
      go_wp2_with fail
      go_region_held3 (fun W' => W'.cell? ⟨lb, 0, none⟩ = some (.pointer (some ⟨db, 0, none⟩))) (first | exact HS.out _ HBc.out | exact HS.out _ (below_drewN HBc.out _)) (first
        | (go_at_call 99; go_must (refine (HZ1.out _ (by first | exact HBc.out | exact below_drewN HBc.out _)).mono ?_; rintro e wq ⟨rfl, hbq⟩; (try (have hq1 := undrewB hbq; clear hbq; have hbq := hq1; clear hq1)); have hq1 := HBc.out.trans (hbq.mono HBc.out.size); have HBc := Lib.hid hq1; clear hq1 hbq))
        | (go_at_call 53; go_must (refine (HZ2.out _ (by first | exact HBc.out | exact below_drewN HBc.out _)).mono ?_; rintro e wq ⟨rfl, hbq⟩; (try (have hq1 := undrewB hbq; clear hbq; have hbq := hq1; clear hq1)); have hq1 := HBc.out.trans (hbq.mono HBc.out.size); have HBc := Lib.hid hq1; clear hq1 hbq))
        | fail)
      all_goals
        go_wp2
        go_ret
        first | exact ⟨rfl, HBc.out⟩ | exact ⟨rfl, below_drewN HBc.out _⟩
    · rw [if_neg (by omega)]
      have q2 : decide ((room : Int) - (S : Int) < (m : Int)) = false := decide_eq_false (by omega)
      have HT := Lib.hid (fun (W' : World) (hb : Below w.heap.size w W') => title_any (n : Int) (by omega) (by omega) W' (H.out.below hb).tab.now)
      have hls := fun (W' : World) (hb : Below w.heap.size w W') => dlasts_any (H.out.below hb).disk (titleN n) (by have := title_le n; unfold maxLen; omega)
      have HLI := Lib.hid (fun (W' : World) (hb : Below w.heap.size w W') => dlist_any (H.out.below hb).disk)
      rw [look_val, List.length_map]
      have hel : es.length ≤ 64 := hr.2.2
      have HN9 := Lib.hid hn9; have HBG := Lib.hid hbig
      clear hn9 hbig hS
      cases hlo : lookE es (titleN n) with
      | some x =>
        simp only [hlo] at hls
        rw [if_neg (by simp)]
        have HLS := Lib.hid (fun (W' : World) (hb : Below w.heap.size w W') => show Calls Tryz.prog 49 #[.pointer (some ⟨db, 0, none⟩), .string (titleN n)] W' fun e w' => e = .returned (.tuple #[.int .i64 (x.n : Nat), .int .i64 0]) ∧ Below W'.heap.size W' w' from by
          refine (hls W' hb).mono ?_
          rintro e w' ⟨rfl, rfl⟩
          exact ⟨rfl, Below.refl _ _⟩)
        clear hls hlo
        go_enter Tryz.func68, Tryz.ntmps68
        go_wp2_with fail
        go_region_held3 (fun W' => W'.cell? ⟨lb, 0, none⟩ = some (.pointer (some ⟨db, 0, none⟩))) (first | exact HS.out _ HBc.out | exact HS.out _ (below_drewN HBc.out _)) (first
          | (go_at_call 99; go_must (refine (HZ1.out _ (by first | exact HBc.out | exact below_drewN HBc.out _)).mono ?_; rintro e wq ⟨rfl, hbq⟩; (try (have hq1 := undrewB hbq; clear hbq; have hbq := hq1; clear hq1)); have hq1 := HBc.out.trans (hbq.mono HBc.out.size); have HBc := Lib.hid hq1; clear hq1 hbq))
          | (go_at_call 53; go_must (refine (HZ2.out _ (by first | exact HBc.out | exact below_drewN HBc.out _)).mono ?_; rintro e wq ⟨rfl, hbq⟩; (try (have hq1 := undrewB hbq; clear hbq; have hbq := hq1; clear hq1)); have hq1 := HBc.out.trans (hbq.mono HBc.out.size); have HBc := Lib.hid hq1; clear hq1 hbq))
          | fail)
        all_goals
          go_wp2_with fail
          go_region_held3 (fun W' => W'.cell? ⟨lb, 0, none⟩ = some (.pointer (some ⟨db, 0, none⟩))) (first | exact HS.out _ HBc.out | exact HS.out _ (below_drewN HBc.out _)) (first
            | (go_at_call 12; go_must (refine (HT.out _ (by first | exact HBc.out | exact below_drewN HBc.out _)).mono ?_; rintro e wq ⟨rfl, hbq⟩; (try (have hq1 := undrewB hbq; clear hbq; have hbq := hq1; clear hq1)); have hq1 := HBc.out.trans (hbq.mono HBc.out.size); have HBc := Lib.hid hq1; clear hq1 hbq))
            | (go_at_call 49; go_must (refine (HLS.out _ (by first | exact HBc.out | exact below_drewN HBc.out _)).mono ?_; rintro e wq ⟨rfl, hbq⟩; (try (have hq1 := undrewB hbq; clear hbq; have hbq := hq1; clear hq1)); have hq1 := HBc.out.trans (hbq.mono HBc.out.size); have HBc := Lib.hid hq1; clear hq1 hbq))
            | fail)
          all_goals
            go_wp2
            go_ret
            first | exact ⟨rfl, HBc.out⟩ | exact ⟨rfl, below_drewN HBc.out _⟩
      | none =>
        simp only [hlo] at hls
        have HLS := Lib.hid (fun (W' : World) (hb : Below w.heap.size w W') => show Calls Tryz.prog 49 #[.pointer (some ⟨db, 0, none⟩), .string (titleN n)] W' fun e w' => e = .returned (.tuple #[.int .i64 0, .int .i64 4]) ∧ Below W'.heap.size W' w' from by
          refine (hls W' hb).mono ?_
          rintro e w' ⟨rfl, rfl⟩
          exact ⟨rfl, Below.refl _ _⟩)
        clear hls hlo
        have hif : (if (Option.map val none = none) ∧ 64 ≤ es.length then (3 : Int) else 0) = if 64 ≤ es.length then 3 else 0 := by simp
        rw [hif]
        by_cases h64 : 64 ≤ es.length
        · rw [if_pos h64]
          have e64 : (64 : Int) ≤ (es.length : Int) := by omega
          go_enter Tryz.func68, Tryz.ntmps68
          go_wp2_with fail
          go_region_held3 (fun W' => W'.cell? ⟨lb, 0, none⟩ = some (.pointer (some ⟨db, 0, none⟩))) (first | exact HS.out _ HBc.out | exact HS.out _ (below_drewN HBc.out _)) (first
            | (go_at_call 99; go_must (refine (HZ1.out _ (by first | exact HBc.out | exact below_drewN HBc.out _)).mono ?_; rintro e wq ⟨rfl, hbq⟩; (try (have hq1 := undrewB hbq; clear hbq; have hbq := hq1; clear hq1)); have hq1 := HBc.out.trans (hbq.mono HBc.out.size); have HBc := Lib.hid hq1; clear hq1 hbq))
            | (go_at_call 53; go_must (refine (HZ2.out _ (by first | exact HBc.out | exact below_drewN HBc.out _)).mono ?_; rintro e wq ⟨rfl, hbq⟩; (try (have hq1 := undrewB hbq; clear hbq; have hbq := hq1; clear hq1)); have hq1 := HBc.out.trans (hbq.mono HBc.out.size); have HBc := Lib.hid hq1; clear hq1 hbq))
            | fail)
          all_goals
            go_wp2_with fail
            go_region_held3 (fun W' => W'.cell? ⟨lb, 0, none⟩ = some (.pointer (some ⟨db, 0, none⟩))) (first | exact HS.out _ HBc.out | exact HS.out _ (below_drewN HBc.out _)) (first
              | (go_at_call 12; go_must (refine (HT.out _ (by first | exact HBc.out | exact below_drewN HBc.out _)).mono ?_; rintro e wq ⟨rfl, hbq⟩; (try (have hq1 := undrewB hbq; clear hbq; have hbq := hq1; clear hq1)); have hq1 := HBc.out.trans (hbq.mono HBc.out.size); have HBc := Lib.hid hq1; clear hq1 hbq))
              | (go_at_call 49; go_must (refine (HLS.out _ (by first | exact HBc.out | exact below_drewN HBc.out _)).mono ?_; rintro e wq ⟨rfl, hbq⟩; (try (have hq1 := undrewB hbq; clear hbq; have hbq := hq1; clear hq1)); have hq1 := HBc.out.trans (hbq.mono HBc.out.size); have HBc := Lib.hid hq1; clear hq1 hbq))
              | fail)
            all_goals
              have c0 := HS.out _ HBc.out
              go_wp2_with fail
              with_reducible refine (HLI.out _ (by first | exact HBc.out | exact below_drewN HBc.out _)).mono ?_
              rintro e w5 ⟨vl, rfl, hol, hb5⟩
              (try (have hq1 := undrewB hb5; clear hb5; have hb5 := hq1; clear hq1))
              obtain ⟨Al, cl, rfl, -⟩ := own_rd hol
              have HB5 := Lib.hid (HBc.out.trans (hb5.mono HBc.out.size))
              clear hol hb5
              go_wp2
              go_ret
              exact ⟨rfl, HB5.out⟩
        · rw [if_neg h64]
          have e64 : ¬ (64 : Int) ≤ (es.length : Int) := by omega
          go_enter Tryz.func68, Tryz.ntmps68
          go_wp2_with fail
          go_region_held3 (fun W' => W'.cell? ⟨lb, 0, none⟩ = some (.pointer (some ⟨db, 0, none⟩))) (first | exact HS.out _ HBc.out | exact HS.out _ (below_drewN HBc.out _)) (first
            | (go_at_call 99; go_must (refine (HZ1.out _ (by first | exact HBc.out | exact below_drewN HBc.out _)).mono ?_; rintro e wq ⟨rfl, hbq⟩; (try (have hq1 := undrewB hbq; clear hbq; have hbq := hq1; clear hq1)); have hq1 := HBc.out.trans (hbq.mono HBc.out.size); have HBc := Lib.hid hq1; clear hq1 hbq))
            | (go_at_call 53; go_must (refine (HZ2.out _ (by first | exact HBc.out | exact below_drewN HBc.out _)).mono ?_; rintro e wq ⟨rfl, hbq⟩; (try (have hq1 := undrewB hbq; clear hbq; have hbq := hq1; clear hq1)); have hq1 := HBc.out.trans (hbq.mono HBc.out.size); have HBc := Lib.hid hq1; clear hq1 hbq))
            | fail)
          all_goals
            go_wp2_with fail
            go_region_held3 (fun W' => W'.cell? ⟨lb, 0, none⟩ = some (.pointer (some ⟨db, 0, none⟩))) (first | exact HS.out _ HBc.out | exact HS.out _ (below_drewN HBc.out _)) (first
              | (go_at_call 12; go_must (refine (HT.out _ (by first | exact HBc.out | exact below_drewN HBc.out _)).mono ?_; rintro e wq ⟨rfl, hbq⟩; (try (have hq1 := undrewB hbq; clear hbq; have hbq := hq1; clear hq1)); have hq1 := HBc.out.trans (hbq.mono HBc.out.size); have HBc := Lib.hid hq1; clear hq1 hbq))
              | (go_at_call 49; go_must (refine (HLS.out _ (by first | exact HBc.out | exact below_drewN HBc.out _)).mono ?_; rintro e wq ⟨rfl, hbq⟩; (try (have hq1 := undrewB hbq; clear hbq; have hbq := hq1; clear hq1)); have hq1 := HBc.out.trans (hbq.mono HBc.out.size); have HBc := Lib.hid hq1; clear hq1 hbq))
              | fail)
            all_goals
              have c0 := HS.out _ HBc.out
              go_wp2_with fail
              with_reducible refine (HLI.out _ (by first | exact HBc.out | exact below_drewN HBc.out _)).mono ?_
              rintro e w5 ⟨vl, rfl, hol, hb5⟩
              (try (have hq1 := undrewB hb5; clear hb5; have hb5 := hq1; clear hq1))
              obtain ⟨Al, cl, rfl, -⟩ := own_rd hol
              have HB5 := Lib.hid (HBc.out.trans (hb5.mono HBc.out.size))
              clear hol hb5
              go_wp2
              go_ret
              exact ⟨rfl, HB5.out⟩
end
end
end Go.Proofs.YtnmbjhpecblioaaGreatDoor
