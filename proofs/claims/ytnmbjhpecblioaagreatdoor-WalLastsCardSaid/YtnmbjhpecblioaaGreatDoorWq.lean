/-
  A log's Append.
  A log's Drop; its numbers.
  A log on a disk of the law's own, from call to call.
-/
import Derived.Test.YtnmbjhpecblioaaGreatDoorWx
import Derived.Test.YtnmbjhpecblioaaGreatDoorFp
import Derived.Test.YtnmbjhpecblioaaGreatDoorWo
import Derived.Test.YtnmbjhpecblioaaGreatDoorDc
namespace Go.Proofs.YtnmbjhpecblioaaGreatDoor
set_option linter.unusedVariables false
set_option linter.unusedSimpArgs false
section
set_option linter.unusedVariables false
set_option linter.unusedSimpArgs false
open Go.Maps Go.RowKit
theorem frame_len (b : List UInt8) (h : b.length ≤ 1048576) : (frameF b).length ≤ 1048600 := by
  have := frameF_length b
  have h2 : (pu b.length).length ≤ 3 := Nat.le_trans (pu_len 3 _ (by omega)) (by omega)
  omega
section
set_option maxHeartbeats 3200000
set_option maxRecDepth 100000
variable {w : World} {lb db mb room : Nat} {es : List Ent} {seg cnt sure : Nat}
theorem wappend_any (h : LogE w lb db mb room es seg cnt sure) (A : Option Addr) (c : Nat) (b : List UInt8) (hx : Rd w A (b.map Bv)) (hbl : b.length ≤ 1048576) (hcnt : cnt ≤ 1000000000) :
    Calls Tryz.prog 28 #[.pointer (some ⟨lb, 0, none⟩), .slice A b.length c] w (LogOut w lb db mb room es (wappP room (es.map val, seg, cnt, sure) b).1 (wappP room (es.map val, seg, cnt, sure) b).2) := by
  have hsg := h.seg1
  have hfl := frame_len b hbl
  have hsz := h.disk.fits
  have hlw : lenW (es.map val) seg ≤ 16777216 := by
    unfold lenW
    cases hl : lookL (es.map val) (titleN seg) with
    | none => exact Nat.zero_le _
    | some f =>
      obtain ⟨e, he, rfl⟩ := List.mem_map.1 (look_mem hl).1
      exact h.disk.len he
  have hpw : (es.map val).Pairwise fun a b => a.1 ≠ b.1 := distinct (by rw [List.pairwise_map]; exact h.disk.srt)
  have HPW := Lib.hid hpw
  have HPU := Lib.hid (fput_any A c b w h.tab.now.steps hx hbl)
  have HMD := Lib.hid (wmade_any h)
  obtain ⟨c0, c1, c2, c3⟩ := h.cells
  have H := Lib.hid h
  unfold wappP
  rw [if_neg (by omega)]
  clear h hx hpw
  simp only
  generalize frameF b = F at *
  obtain ⟨fl, hfl2⟩ : ∃ fl, fl = F.length := ⟨_, rfl⟩
  rw [← hfl2] at hfl HPU
  have HFL := Lib.hid hfl2
  obtain ⟨M, hM⟩ : ∃ M, M = lenW (es.map val) seg := ⟨_, rfl⟩
  rw [← hM] at hlw
  have HM := Lib.hid hM
  have hsum : IntKind.i64.wrap ((M : Int) + (fl : Int)) = (M : Int) + (fl : Int) := IntWalk.i64_in _ (by omega)
  clear hM
  by_cases hto : 0 < M ∧ 4096 < M + fl
  · obtain ⟨n, hn⟩ : ∃ n, n = seg + 1 := ⟨_, rfl⟩
    have hw : wtoP (es.map val, seg, cnt, sure) F.length = n := by unfold wtoP; simp only; rw [← HM.out, ← HFL.out, if_pos hto, hn]
    rw [hw]
    have g1 : decide ((0 : Int) < (M : Int)) = true := decide_eq_true (by omega)
    have g2 : decide ((4096 : Int) < (M : Int) + (fl : Int)) = true := decide_eq_true (by omega)
    have g1' : (0 : Int) < (M : Int) := by omega
    have g2' : (4096 : Int) < (M : Int) + (fl : Int) := by omega
    have q1 : IntKind.i64.wrap ((seg : Int) + 1) = (n : Int) := by rw [IntWalk.i64_in _ (by omega)]; omega
    have q2 : (seg : Int) + 1 = (n : Int) := by omega
    have q3 : (seg : Int) < (n : Int) := by omega
    have hne : ¬ n = seg := by omega
    have HMP := Lib.hid hto.1
    have HN := Lib.hid hn
    have HN9 := Lib.hid (show n ≤ 100000000 by omega)
    rw [if_neg hne, if_neg hne]
    clear hto hw hfl2 hn hne
    obtain ⟨T, hT⟩ : ∃ T, T = wtakesP room (es.map val) n F.length := ⟨_, rfl⟩
    rw [← hT]
    have HTK := Lib.hid (fun (W' : World) (hb : Below w.heap.size w W') => takes_any (H.out.below hb) n F.length HN9.out (by rw [← HFL.out]; omega))
    rw [← hT, ← HFL.out] at HTK
    have HHA := Lib.hid (fun (W' : World) (hb : Below w.heap.size w W') => has_any (H.out.below hb) seg (by omega))
    rw [← HM.out] at HHA
    have HT := Lib.hid hT
    clear hT
    by_cases hT0 : T = 0
    · rw [if_neg (by simp [hT0])]
      have t0 : (T != 0) = false := by simp [hT0]
      have hn8 : n ≤ 99999999 := by
        have h9 := HT.out
        rw [hT0] at h9
        unfold wtakesP at h9
        split at h9
        · cases h9
        · rename_i h8; omega
      have HOK0 := Lib.hid (wapp_ok (g := (es.map val, seg, cnt, sure)) HPW.out (by rw [← HT.out]; exact hT0) (by have := HN.out; omega)).2
      have HT0 := Lib.hid hT0; clear hT0
      go_enter Tryz.func28, Tryz.ntmps28
      go_wp2_with fail
      with_reducible refine HMD.out.mono ?_
      rintro e w1 ⟨rfl, rfl⟩
      go_wp2_with fail
      with_reducible refine HPU.out.mono ?_
      rintro e w1 ⟨v1, rfl, ho1, hb1⟩
      obtain ⟨A1, c1', rfl, hr1, -, hc1, hc1m⟩ := own_rd ho1
      have HR1 := Lib.hid hr1; have HB1 := Lib.hid hb1; have HO1 := Lib.hid ho1
      obtain ⟨d0, d1, d2, d3⟩ := (H.out.below hb1).cells
      clear ho1 hr1 hb1
      go_wp2_with fail
      with_reducible refine (HHA.out w1 HB1.out).mono ?_
      rintro e w2 ⟨rfl, hb2⟩
      have HB2 := Lib.hid (HB1.out.trans (hb2.mono HB1.out.size)); have HR2 := Lib.hid (HR1.out.below hb2)
      obtain ⟨d0, d1, d2, d3⟩ := (H.out.below HB2.out).cells
      clear hb2
      go_wp2_with fail
      with_reducible refine (HTK.out w2 HB2.out).mono ?_
      rintro e w3 ⟨rfl, hb3⟩
      have HB3 := Lib.hid (HB2.out.trans (hb3.mono HB2.out.size)); have HR3 := Lib.hid (HR2.out.below hb3)
      obtain ⟨d0, d1, d2, d3⟩ := (H.out.below HB3.out).cells
      clear hb3
      have hrl := roll_any (H.out.below HB3.out)
      unfold wrollP at hrl
      simp only at hrl
      rw [if_neg (by have := HN.out; omega), if_pos (by rw [← HM.out]; exact HMP.out), ← HN.out] at hrl
      have HRL := Lib.hid hrl
      clear hrl
      go_wp2_with fail
      with_reducible refine HRL.out.mono ?_
      rintro e w4 ⟨rfl, es4, L4, v4, m4, f4⟩
      simp only at L4 v4
      have HLX := Lib.hid L4; have HVX := Lib.hid v4
      have HRX := Lib.hid (show Rd w4 A1 (F.map Bv) from m4.rd HR3.out fun k hk hb hf => (by cases A1 with | none => cases hb | some a => (injection hb with hb; change a.block = k at hb; subst hb; have h1 := (HO1.out.lt a.block rfl).1; have h2 := (H.out.below HB3.out).lt hf; have h3 := H.out.lt hf; omega)))
      have HMX := Lib.hid ((Mv.of_below HB3.out (footW lb db mb es)).trans m4 (fun _ _ hk => hk))
      have HFX := Lib.hid (fun k (hk : foot db mb es4 k) => (f4 k hk).imp id (Nat.le_trans HB3.out.size))
      have HOK := Lib.hid (show (appD room (es4.map val) (titleN n) F).1 = 0 from by rw [v4]; exact HOK0.out)
      obtain ⟨d0, d1, d2, d3⟩ := L4.cells
      clear L4 v4 m4 f4
      have hcl := fun (W' : World) (hb : Below w4.heap.size w4 W') => (HLX.out.below hb).cells.1
      have HS := Lib.hid hcl
      have HTT := Lib.hid (fun (W' : World) (hb : Below w4.heap.size w4 W') => title_any (n : Int) (by have := HN9.out; omega) (by have := HN9.out; omega) W' (HLX.out.below hb).tab.now)
      have hapd := fun (W' : World) (hb : Below w4.heap.size w4 W') => append_any (HLX.out.below hb).disk (titleN n) (by have := title_le n; unfold maxLen; omega) A1 c1' F (HRX.out.below hb) (by rw [← HFL.out]; omega)
      rw [← HFL.out] at hapd
      have hnmd := named_app HLX.out.named room (titleN n) F
      have HBc := Lib.hid (Below.refl w4.heap.size w4)
      generalize hRA : appD room (es4.map val) (titleN n) F = RA at hapd hnmd
      have hok : RA.1 = 0 := by rw [← hRA]; exact HOK.out
      have hr2 : RA.2 = (appD room (wsyncP (es.map val, seg, cnt, sure)).1 (titleN n) F).2 := by rw [← hRA, HVX.out]
      obtain ⟨ra, la⟩ := RA
      simp only at hok hr2
      subst hok
      have HAPD := Lib.hid hapd; have HNMD := Lib.hid hnmd; have HLA := Lib.hid hr2
      clear hcl hapd hnmd hRA hr2
      go_wp2_with fail
      go_region_held3 (fun W' => W'.cell? ⟨lb, 0, none⟩ = some (.pointer (some ⟨db, 0, none⟩))) (first | exact HL9.out.cells.1 | exact HS.out _ HBc.out | exact HS.out _ (below_drewN HBc.out _)) (first
        | (go_at_call 12; go_must (refine (HTT.out _ (by first | exact HBc.out | exact below_drewN HBc.out _)).mono ?_; rintro e wq ⟨rfl, hbq⟩; (try (have hq1 := undrewB hbq; clear hbq; have hbq := hq1; clear hq1)); have hq1 := HBc.out.trans (hbq.mono HBc.out.size); have HBc := Lib.hid hq1; clear hq1 hbq))
        | (go_at_call 16; go_must (refine (HAPD.out _ (by first | exact HBc.out | exact below_drewN HBc.out _)).mono ?_; rintro e wq hM; obtain ⟨rfl, es9, L9, v9, m9, f9⟩ := (HLX.out.below (by first | exact HBc.out | exact below_drewN HBc.out _)).mut hM HNMD.out; have HL9 := Lib.hid L9; have HV9 := Lib.hid v9; have HM9 := Lib.hid ((Mv.of_below (by first | exact HBc.out | exact below_drewN HBc.out _) _).trans m9 (fun _ _ hk => hk)); have HF9 := Lib.hid (fun k hk => (f9 k hk).imp id (Nat.le_trans HBc.out.size)); clear hM L9 v9 m9 f9))
        | fail)
      all_goals
        obtain ⟨d0, d1, d2, d3⟩ := HL9.out.cells
        obtain ⟨g7, g8, g9⟩ := HL9.out.free
        obtain ⟨C, hC⟩ : ∃ C, C = cnt + 1 := ⟨_, rfl⟩
        have qc1 : IntKind.i64.wrap ((cnt : Int) + 1) = (C : Int) := by rw [IntWalk.i64_in _ (by omega)]; omega
        have qc2 : (cnt : Int) + 1 = (C : Int) := by omega
        have HC := Lib.hid hC
        clear hC
        go_wp2
        try go_region
        try go_wp2
        go_ret
        refine ⟨rfl, es9, ?_, HV9.out.trans HLA.out, ?_, fun k hk => ?_⟩
        · simp only
          rw [← HC.out]
          first | exact HL9.out.setCnt C | exact (HL9.out.drewN _).setCnt C
        · refine HMX.out.trans (T := footW lb db mb es4) ?_ (fun k hk0 hk => ?_)
          · first | exact HM9.out.setCell (p := ⟨lb, 2, none⟩) (fun _ => .inl rfl) _ | exact (HM9.out.drewN _).setCell (p := ⟨lb, 2, none⟩) (fun _ => .inl rfl) _
          · exact hk.elim .inl fun hk => (HFX.out k hk).elim .inr fun h => absurd hk0 (by omega)
        · rcases HF9.out k hk with hk | hk
          · exact HFX.out k hk
          · exact .inr (Nat.le_trans HMX.out.size hk)
    · rw [if_pos hT0]
      have t0 : (T != 0) = true := by simp [hT0]
      have HT0 := Lib.hid hT0; clear hT0
      go_enter Tryz.func28, Tryz.ntmps28
      go_wp2_with fail
      with_reducible refine HMD.out.mono ?_
      rintro e w1 ⟨rfl, rfl⟩
      go_wp2_with fail
      with_reducible refine HPU.out.mono ?_
      rintro e w1 ⟨v1, rfl, ho1, hb1⟩
      obtain ⟨A1, c1', rfl, hr1, -, hc1, hc1m⟩ := own_rd ho1
      have HR1 := Lib.hid hr1; have HB1 := Lib.hid hb1; have HO1 := Lib.hid ho1
      obtain ⟨d0, d1, d2, d3⟩ := (H.out.below hb1).cells
      clear ho1 hr1 hb1
      go_wp2_with fail
      with_reducible refine (HHA.out w1 HB1.out).mono ?_
      rintro e w2 ⟨rfl, hb2⟩
      have HB2 := Lib.hid (HB1.out.trans (hb2.mono HB1.out.size)); have HR2 := Lib.hid (HR1.out.below hb2)
      obtain ⟨d0, d1, d2, d3⟩ := (H.out.below HB2.out).cells
      clear hb2
      go_wp2_with fail
      with_reducible refine (HTK.out w2 HB2.out).mono ?_
      rintro e w3 ⟨rfl, hb3⟩
      have HB3 := Lib.hid (HB2.out.trans (hb3.mono HB2.out.size)); have HR3 := Lib.hid (HR2.out.below hb3)
      obtain ⟨d0, d1, d2, d3⟩ := (H.out.below HB3.out).cells
      clear hb3
      go_wp2
      go_ret
      exact (LogOut.same (c := T) (H.out.below HB3.out)).pre HB3.out
  · have hw : wtoP (es.map val, seg, cnt, sure) F.length = seg := by unfold wtoP; simp only; rw [← HM.out, ← HFL.out, if_neg hto]
    rw [hw, if_pos rfl, if_pos rfl]
    have q3 : ¬ (seg : Int) < (seg : Int) := by omega
    have HN9 := Lib.hid (show seg ≤ 100000000 by omega)
    by_cases hm0 : 0 < M
    · have g1 : decide ((0 : Int) < (M : Int)) = true := decide_eq_true (by omega)
      have g2 : decide ((4096 : Int) < (M : Int) + (fl : Int)) = false := decide_eq_false (by omega)
      have g1' : (0 : Int) < (M : Int) := by omega
      have g2' : ¬ (4096 : Int) < (M : Int) + (fl : Int) := by omega
      clear hto hw hfl2 hm0
      obtain ⟨T, hT⟩ : ∃ T, T = wtakesP room (es.map val) seg F.length := ⟨_, rfl⟩
      rw [← hT]
      have HTK := Lib.hid (fun (W' : World) (hb : Below w.heap.size w W') => takes_any (H.out.below hb) seg F.length HN9.out (by rw [← HFL.out]; omega))
      rw [← hT, ← HFL.out] at HTK
      have HHA := Lib.hid (fun (W' : World) (hb : Below w.heap.size w W') => has_any (H.out.below hb) seg (by omega))
      rw [← HM.out] at HHA
      have HT := Lib.hid hT
      clear hT
      by_cases hT0 : T = 0
      · rw [if_neg (by simp [hT0])]
        have t0 : (T != 0) = false := by simp [hT0]
        have HOK := Lib.hid (wapp_ok (g := (es.map val, seg, cnt, sure)) HPW.out (by rw [← HT.out]; exact hT0) (by omega)).1
        have HT0 := Lib.hid hT0; clear hT0
        go_enter Tryz.func28, Tryz.ntmps28
        go_wp2_with fail
        with_reducible refine HMD.out.mono ?_
        rintro e w1 ⟨rfl, rfl⟩
        go_wp2_with fail
        with_reducible refine HPU.out.mono ?_
        rintro e w1 ⟨v1, rfl, ho1, hb1⟩
        obtain ⟨A1, c1', rfl, hr1, -, hc1, hc1m⟩ := own_rd ho1
        have HR1 := Lib.hid hr1; have HB1 := Lib.hid hb1; have HO1 := Lib.hid ho1
        obtain ⟨d0, d1, d2, d3⟩ := (H.out.below hb1).cells
        clear ho1 hr1 hb1
        go_wp2_with fail
        with_reducible refine (HHA.out w1 HB1.out).mono ?_
        rintro e w2 ⟨rfl, hb2⟩
        have HB2 := Lib.hid (HB1.out.trans (hb2.mono HB1.out.size)); have HR2 := Lib.hid (HR1.out.below hb2)
        obtain ⟨d0, d1, d2, d3⟩ := (H.out.below HB2.out).cells
        clear hb2
        go_wp2_with fail
        with_reducible refine (HTK.out w2 HB2.out).mono ?_
        rintro e w3 ⟨rfl, hb3⟩
        have HB3 := Lib.hid (HB2.out.trans (hb3.mono HB2.out.size)); have HR3 := Lib.hid (HR2.out.below hb3)
        obtain ⟨d0, d1, d2, d3⟩ := (H.out.below HB3.out).cells
        clear hb3
        have HLX := Lib.hid (H.out.below HB3.out); have HRX := HR3
        have HVX := Lib.hid (show es.map val = es.map val from rfl)
        have HMX := Lib.hid (Mv.of_below HB3.out (footW lb db mb es))
        have HFX := Lib.hid (fun k (hk : foot db mb es k) => (Or.inl hk : foot db mb es k ∨ w.heap.size ≤ k))
        have hcl := fun (W' : World) (hb : Below w3.heap.size w3 W') => (HLX.out.below hb).cells.1
        have HS := Lib.hid hcl
        have HTT := Lib.hid (fun (W' : World) (hb : Below w3.heap.size w3 W') => title_any (seg : Int) (by have := HN9.out; omega) (by have := HN9.out; omega) W' (HLX.out.below hb).tab.now)
        have hapd := fun (W' : World) (hb : Below w3.heap.size w3 W') => append_any (HLX.out.below hb).disk (titleN seg) (by have := title_le seg; unfold maxLen; omega) A1 c1' F (HRX.out.below hb) (by rw [← HFL.out]; omega)
        rw [← HFL.out] at hapd
        have hnmd := named_app HLX.out.named room (titleN seg) F
        have HBc := Lib.hid (Below.refl w3.heap.size w3)
        generalize hRA : appD room (es.map val) (titleN seg) F = RA at hapd hnmd
        have hok : RA.1 = 0 := by rw [← hRA]; exact HOK.out
        have hr2 : RA.2 = (appD room (es.map val) (titleN seg) F).2 := by rw [← hRA, HVX.out]
        obtain ⟨ra, la⟩ := RA
        simp only at hok hr2
        subst hok
        have HAPD := Lib.hid hapd; have HNMD := Lib.hid hnmd; have HLA := Lib.hid hr2
        clear hcl hapd hnmd hRA hr2
        go_wp2_with fail
        go_region_held3 (fun W' => W'.cell? ⟨lb, 0, none⟩ = some (.pointer (some ⟨db, 0, none⟩))) (first | exact HL9.out.cells.1 | exact HS.out _ HBc.out | exact HS.out _ (below_drewN HBc.out _)) (first
          | (go_at_call 12; go_must (refine (HTT.out _ (by first | exact HBc.out | exact below_drewN HBc.out _)).mono ?_; rintro e wq ⟨rfl, hbq⟩; (try (have hq1 := undrewB hbq; clear hbq; have hbq := hq1; clear hq1)); have hq1 := HBc.out.trans (hbq.mono HBc.out.size); have HBc := Lib.hid hq1; clear hq1 hbq))
          | (go_at_call 16; go_must (refine (HAPD.out _ (by first | exact HBc.out | exact below_drewN HBc.out _)).mono ?_; rintro e wq hM; obtain ⟨rfl, es9, L9, v9, m9, f9⟩ := (HLX.out.below (by first | exact HBc.out | exact below_drewN HBc.out _)).mut hM HNMD.out; have HL9 := Lib.hid L9; have HV9 := Lib.hid v9; have HM9 := Lib.hid ((Mv.of_below (by first | exact HBc.out | exact below_drewN HBc.out _) _).trans m9 (fun _ _ hk => hk)); have HF9 := Lib.hid (fun k hk => (f9 k hk).imp id (Nat.le_trans HBc.out.size)); clear hM L9 v9 m9 f9))
          | fail)
        all_goals
          obtain ⟨d0, d1, d2, d3⟩ := HL9.out.cells
          obtain ⟨g7, g8, g9⟩ := HL9.out.free
          obtain ⟨C, hC⟩ : ∃ C, C = cnt + 1 := ⟨_, rfl⟩
          have qc1 : IntKind.i64.wrap ((cnt : Int) + 1) = (C : Int) := by rw [IntWalk.i64_in _ (by omega)]; omega
          have qc2 : (cnt : Int) + 1 = (C : Int) := by omega
          have HC := Lib.hid hC
          clear hC
          go_wp2
          try go_region
          try go_wp2
          go_ret
          refine ⟨rfl, es9, ?_, HV9.out.trans HLA.out, ?_, fun k hk => ?_⟩
          · simp only
            rw [← HC.out]
            first | exact HL9.out.setCnt C | exact (HL9.out.drewN _).setCnt C
          · refine HMX.out.trans (T := footW lb db mb es) ?_ (fun k hk0 hk => ?_)
            · first | exact HM9.out.setCell (p := ⟨lb, 2, none⟩) (fun _ => .inl rfl) _ | exact (HM9.out.drewN _).setCell (p := ⟨lb, 2, none⟩) (fun _ => .inl rfl) _
            · exact hk.elim .inl fun hk => (HFX.out k hk).elim .inr fun h => absurd hk0 (by omega)
          · rcases HF9.out k hk with hk | hk
            · exact HFX.out k hk
            · exact .inr (Nat.le_trans HMX.out.size hk)
      · rw [if_pos hT0]
        have t0 : (T != 0) = true := by simp [hT0]
        have HT0 := Lib.hid hT0; clear hT0
        go_enter Tryz.func28, Tryz.ntmps28
        go_wp2_with fail
        with_reducible refine HMD.out.mono ?_
        rintro e w1 ⟨rfl, rfl⟩
        go_wp2_with fail
        with_reducible refine HPU.out.mono ?_
        rintro e w1 ⟨v1, rfl, ho1, hb1⟩
        obtain ⟨A1, c1', rfl, hr1, -, hc1, hc1m⟩ := own_rd ho1
        have HR1 := Lib.hid hr1; have HB1 := Lib.hid hb1; have HO1 := Lib.hid ho1
        obtain ⟨d0, d1, d2, d3⟩ := (H.out.below hb1).cells
        clear ho1 hr1 hb1
        go_wp2_with fail
        with_reducible refine (HHA.out w1 HB1.out).mono ?_
        rintro e w2 ⟨rfl, hb2⟩
        have HB2 := Lib.hid (HB1.out.trans (hb2.mono HB1.out.size)); have HR2 := Lib.hid (HR1.out.below hb2)
        obtain ⟨d0, d1, d2, d3⟩ := (H.out.below HB2.out).cells
        clear hb2
        go_wp2_with fail
        with_reducible refine (HTK.out w2 HB2.out).mono ?_
        rintro e w3 ⟨rfl, hb3⟩
        have HB3 := Lib.hid (HB2.out.trans (hb3.mono HB2.out.size)); have HR3 := Lib.hid (HR2.out.below hb3)
        obtain ⟨d0, d1, d2, d3⟩ := (H.out.below HB3.out).cells
        clear hb3
        go_wp2
        go_ret
        exact (LogOut.same (c := T) (H.out.below HB3.out)).pre HB3.out
    · have g1 : decide ((0 : Int) < (M : Int)) = false := decide_eq_false (by omega)
      have g1' : ¬ (0 : Int) < (M : Int) := by omega
      clear hto hw hfl2 hm0
      obtain ⟨T, hT⟩ : ∃ T, T = wtakesP room (es.map val) seg F.length := ⟨_, rfl⟩
      rw [← hT]
      have HTK := Lib.hid (fun (W' : World) (hb : Below w.heap.size w W') => takes_any (H.out.below hb) seg F.length HN9.out (by rw [← HFL.out]; omega))
      rw [← hT, ← HFL.out] at HTK
      have HHA := Lib.hid (fun (W' : World) (hb : Below w.heap.size w W') => has_any (H.out.below hb) seg (by omega))
      rw [← HM.out] at HHA
      have HT := Lib.hid hT
      clear hT
      by_cases hT0 : T = 0
      · rw [if_neg (by simp [hT0])]
        have t0 : (T != 0) = false := by simp [hT0]
        have HOK := Lib.hid (wapp_ok (g := (es.map val, seg, cnt, sure)) HPW.out (by rw [← HT.out]; exact hT0) (by omega)).1
        have HT0 := Lib.hid hT0; clear hT0
        go_enter Tryz.func28, Tryz.ntmps28
        go_wp2_with fail
        with_reducible refine HMD.out.mono ?_
        rintro e w1 ⟨rfl, rfl⟩
        go_wp2_with fail
        with_reducible refine HPU.out.mono ?_
        rintro e w1 ⟨v1, rfl, ho1, hb1⟩
        obtain ⟨A1, c1', rfl, hr1, -, hc1, hc1m⟩ := own_rd ho1
        have HR1 := Lib.hid hr1; have HB1 := Lib.hid hb1; have HO1 := Lib.hid ho1
        obtain ⟨d0, d1, d2, d3⟩ := (H.out.below hb1).cells
        clear ho1 hr1 hb1
        go_wp2_with fail
        with_reducible refine (HHA.out w1 HB1.out).mono ?_
        rintro e w2 ⟨rfl, hb2⟩
        have HB2 := Lib.hid (HB1.out.trans (hb2.mono HB1.out.size)); have HR2 := Lib.hid (HR1.out.below hb2)
        obtain ⟨d0, d1, d2, d3⟩ := (H.out.below HB2.out).cells
        clear hb2
        go_wp2_with fail
        with_reducible refine (HTK.out w2 HB2.out).mono ?_
        rintro e w3 ⟨rfl, hb3⟩
        have HB3 := Lib.hid (HB2.out.trans (hb3.mono HB2.out.size)); have HR3 := Lib.hid (HR2.out.below hb3)
        obtain ⟨d0, d1, d2, d3⟩ := (H.out.below HB3.out).cells
        clear hb3
        have HLX := Lib.hid (H.out.below HB3.out); have HRX := HR3
        have HVX := Lib.hid (show es.map val = es.map val from rfl)
        have HMX := Lib.hid (Mv.of_below HB3.out (footW lb db mb es))
        have HFX := Lib.hid (fun k (hk : foot db mb es k) => (Or.inl hk : foot db mb es k ∨ w.heap.size ≤ k))
        have hcl := fun (W' : World) (hb : Below w3.heap.size w3 W') => (HLX.out.below hb).cells.1
        have HS := Lib.hid hcl
        have HTT := Lib.hid (fun (W' : World) (hb : Below w3.heap.size w3 W') => title_any (seg : Int) (by have := HN9.out; omega) (by have := HN9.out; omega) W' (HLX.out.below hb).tab.now)
        have hapd := fun (W' : World) (hb : Below w3.heap.size w3 W') => append_any (HLX.out.below hb).disk (titleN seg) (by have := title_le seg; unfold maxLen; omega) A1 c1' F (HRX.out.below hb) (by rw [← HFL.out]; omega)
        rw [← HFL.out] at hapd
        have hnmd := named_app HLX.out.named room (titleN seg) F
        have HBc := Lib.hid (Below.refl w3.heap.size w3)
        generalize hRA : appD room (es.map val) (titleN seg) F = RA at hapd hnmd
        have hok : RA.1 = 0 := by rw [← hRA]; exact HOK.out
        have hr2 : RA.2 = (appD room (es.map val) (titleN seg) F).2 := by rw [← hRA, HVX.out]
        obtain ⟨ra, la⟩ := RA
        simp only at hok hr2
        subst hok
        have HAPD := Lib.hid hapd; have HNMD := Lib.hid hnmd; have HLA := Lib.hid hr2
        clear hcl hapd hnmd hRA hr2
        go_wp2_with fail
        go_region_held3 (fun W' => W'.cell? ⟨lb, 0, none⟩ = some (.pointer (some ⟨db, 0, none⟩))) (first | exact HL9.out.cells.1 | exact HS.out _ HBc.out | exact HS.out _ (below_drewN HBc.out _)) (first
          | (go_at_call 12; go_must (refine (HTT.out _ (by first | exact HBc.out | exact below_drewN HBc.out _)).mono ?_; rintro e wq ⟨rfl, hbq⟩; (try (have hq1 := undrewB hbq; clear hbq; have hbq := hq1; clear hq1)); have hq1 := HBc.out.trans (hbq.mono HBc.out.size); have HBc := Lib.hid hq1; clear hq1 hbq))
          | (go_at_call 16; go_must (refine (HAPD.out _ (by first | exact HBc.out | exact below_drewN HBc.out _)).mono ?_; rintro e wq hM; obtain ⟨rfl, es9, L9, v9, m9, f9⟩ := (HLX.out.below (by first | exact HBc.out | exact below_drewN HBc.out _)).mut hM HNMD.out; have HL9 := Lib.hid L9; have HV9 := Lib.hid v9; have HM9 := Lib.hid ((Mv.of_below (by first | exact HBc.out | exact below_drewN HBc.out _) _).trans m9 (fun _ _ hk => hk)); have HF9 := Lib.hid (fun k hk => (f9 k hk).imp id (Nat.le_trans HBc.out.size)); clear hM L9 v9 m9 f9))
          | fail)
        all_goals
          obtain ⟨d0, d1, d2, d3⟩ := HL9.out.cells
          obtain ⟨g7, g8, g9⟩ := HL9.out.free
          obtain ⟨C, hC⟩ : ∃ C, C = cnt + 1 := ⟨_, rfl⟩
          have qc1 : IntKind.i64.wrap ((cnt : Int) + 1) = (C : Int) := by rw [IntWalk.i64_in _ (by omega)]; omega
          have qc2 : (cnt : Int) + 1 = (C : Int) := by omega
          have HC := Lib.hid hC
          clear hC
          go_wp2
          try go_region
          try go_wp2
          go_ret
          refine ⟨rfl, es9, ?_, HV9.out.trans HLA.out, ?_, fun k hk => ?_⟩
          · simp only
            rw [← HC.out]
            first | exact HL9.out.setCnt C | exact (HL9.out.drewN _).setCnt C
          · refine HMX.out.trans (T := footW lb db mb es) ?_ (fun k hk0 hk => ?_)
            · first | exact HM9.out.setCell (p := ⟨lb, 2, none⟩) (fun _ => .inl rfl) _ | exact (HM9.out.drewN _).setCell (p := ⟨lb, 2, none⟩) (fun _ => .inl rfl) _
            · exact hk.elim .inl fun hk => (HFX.out k hk).elim .inr fun h => absurd hk0 (by omega)
          · rcases HF9.out k hk with hk | hk
            · exact HFX.out k hk
            · exact .inr (Nat.le_trans HMX.out.size hk)
      · rw [if_pos hT0]
        have t0 : (T != 0) = true := by simp [hT0]
        have HT0 := Lib.hid hT0; clear hT0
        go_enter Tryz.func28, Tryz.ntmps28
        go_wp2_with fail
        with_reducible refine HMD.out.mono ?_
        rintro e w1 ⟨rfl, rfl⟩
        go_wp2_with fail
        with_reducible refine HPU.out.mono ?_
        rintro e w1 ⟨v1, rfl, ho1, hb1⟩
        obtain ⟨A1, c1', rfl, hr1, -, hc1, hc1m⟩ := own_rd ho1
        have HR1 := Lib.hid hr1; have HB1 := Lib.hid hb1; have HO1 := Lib.hid ho1
        obtain ⟨d0, d1, d2, d3⟩ := (H.out.below hb1).cells
        clear ho1 hr1 hb1
        go_wp2_with fail
        with_reducible refine (HHA.out w1 HB1.out).mono ?_
        rintro e w2 ⟨rfl, hb2⟩
        have HB2 := Lib.hid (HB1.out.trans (hb2.mono HB1.out.size)); have HR2 := Lib.hid (HR1.out.below hb2)
        obtain ⟨d0, d1, d2, d3⟩ := (H.out.below HB2.out).cells
        clear hb2
        go_wp2_with fail
        with_reducible refine (HTK.out w2 HB2.out).mono ?_
        rintro e w3 ⟨rfl, hb3⟩
        have HB3 := Lib.hid (HB2.out.trans (hb3.mono HB2.out.size)); have HR3 := Lib.hid (HR2.out.below hb3)
        obtain ⟨d0, d1, d2, d3⟩ := (H.out.below HB3.out).cells
        clear hb3
        go_wp2
        go_ret
        exact (LogOut.same (c := T) (H.out.below HB3.out)).pre HB3.out
end
end
section
set_option linter.unusedVariables false
set_option linter.unusedSimpArgs false
open Go.Maps Go.RowKit
theorem look_del {L : List Fl} {s t : ByteArray} (h : t ≠ s) : lookL (delL L s) t = lookL L t := by
  unfold lookL delL
  rw [List.find?_filter]
  congr 1
  funext f
  by_cases ht : f.1 = t
  · simp [ht, h]
  · simp [ht]
theorem look_rem {L : List Fl} {s t : ByteArray} (h : t ≠ s) : lookL (remD L s).2 t = lookL L t := by
  unfold remD
  cases lookL L s with
  | none => rfl
  | some f => exact look_del h
section
set_option maxHeartbeats 3200000
set_option maxRecDepth 100000
variable {w : World} {lb db mb room : Nat} {es : List Ent} {seg cnt sure : Nat}
theorem wcount_any (h : LogE w lb db mb room es seg cnt sure) : Calls Tryz.prog 34 #[.pointer (some ⟨lb, 0, none⟩)] w fun e w' => e = .returned (.int .i64 (cnt : Nat)) ∧ w = w' := by
  have HM := Lib.hid (wmade_any h)
  obtain ⟨c0, c1, c2, c3⟩ := h.cells
  clear h
  go_enter Tryz.func34, Tryz.ntmps34
  go_wp2_with fail
  with_reducible refine HM.out.mono ?_
  rintro e w1 ⟨rfl, rfl⟩
  go_wp2
  go_ret
  exact ⟨rfl, rfl⟩
theorem wsure_any (h : LogE w lb db mb room es seg cnt sure) : Calls Tryz.prog 32 #[.pointer (some ⟨lb, 0, none⟩)] w fun e w' => e = .returned (.int .i64 (sure : Nat)) ∧ w = w' := by
  have HM := Lib.hid (wmade_any h)
  obtain ⟨c0, c1, c2, c3⟩ := h.cells
  clear h
  go_enter Tryz.func32, Tryz.ntmps32
  go_wp2_with fail
  with_reducible refine HM.out.mono ?_
  rintro e w1 ⟨rfl, rfl⟩
  go_wp2
  go_ret
  exact ⟨rfl, rfl⟩
theorem wsegment_any (h : LogE w lb db mb room es seg cnt sure) : Calls Tryz.prog 39 #[.pointer (some ⟨lb, 0, none⟩)] w fun e w' => e = .returned (.int .i64 (seg : Nat)) ∧ w = w' := by
  have HM := Lib.hid (wmade_any h)
  obtain ⟨c0, c1, c2, c3⟩ := h.cells
  clear h
  go_enter Tryz.func39, Tryz.ntmps39
  go_wp2_with fail
  with_reducible refine HM.out.mono ?_
  rintro e w1 ⟨rfl, rfl⟩
  go_wp2
  go_ret
  exact ⟨rfl, rfl⟩
theorem wdrop_any (h : LogE w lb db mb room es seg cnt sure) (n : Int) : Calls Tryz.prog 38 #[.pointer (some ⟨lb, 0, none⟩), .int .i64 n] w (LogOut w lb db mb room es (wdropP (es.map val, seg, cnt, sure) n).1 (wdropP (es.map val, seg, cnt, sure) n).2) := by
  have HMD := Lib.hid (wmade_any h)
  obtain ⟨c0, c1, c2, c3⟩ := h.cells
  have H := Lib.hid h
  unfold wdropP
  simp only
  by_cases hn : (seg : Int) < n
  · rw [if_pos hn]
    clear h
    go_enter Tryz.func38, Tryz.ntmps38
    go_wp2_with fail
    with_reducible refine HMD.out.mono ?_
    rintro e w1 ⟨rfl, rfl⟩
    go_wp2
    go_ret
    exact LogOut.same H.out
  · rw [if_neg hn]
    have HSG := Lib.hid (segments_any h.disk h.tab.now h.named)
    have hpw := distinct (L := es.map val) (by rw [List.pairwise_map]; exact h.disk.srt)
    have HRI := Lib.hid (segs_rise (L := es.map val) (by rw [List.pairwise_map]; exact h.disk.srt) h.named)
    have HIN := Lib.hid (show ∀ n ∈ segsW (es.map val), (1 ≤ n ∧ n ≤ 99999999) ∧ lookL (es.map val) (titleN n) ≠ none from fun n hm => by
      obtain ⟨b, f, hf, e⟩ := (mem_segs h.named).1 hm
      refine ⟨b, ?_⟩
      rw [← e, look_of hpw hf]
      exact fun e => by cases e)
    simp only
    obtain ⟨L, hL⟩ : ∃ L, L = es.map val := ⟨_, rfl⟩
    obtain ⟨S, hS⟩ : ∃ S, S = segsW (es.map val) := ⟨_, rfl⟩
    rw [← hS, ← hL] at HIN
    rw [← hS] at HSG HRI ⊢
    rw [← hL]
    have HL := Lib.hid hL
    clear h hpw hL hS
    go_enter Tryz.func38, Tryz.ntmps38
    go_wp2_with fail
    with_reducible refine HMD.out.mono ?_
    rintro e w0 ⟨rfl, rfl⟩
    go_wp2_with fail
    with_reducible refine HSG.out.mono ?_
    rintro e w1 ⟨A, c, rfl, hc1, hc2, hr, hb1, hnew⟩
    unfold maxLen at hc2
    have HR := Lib.hid hr; have HB1 := Lib.hid hb1; have HNW := Lib.hid hnew
    have HL1 := Lib.hid (H.out.below hb1)
    have HOFF := Lib.hid (show ∀ g, A.map (·.block) = some g → ¬ footW lb db mb es g from fun g hg hf => by have := (hnew g hg).1; have := H.out.lt hf; omega)
    have HLTG := Lib.hid (fun g hg => (hnew g hg).2)
    clear hr hb1 hnew
    go_wp2
    go_loopw [23] (fun s23 wr => ∃ (k : Nat) (es' : List Ent), s23 = .int .i64 k ∧ k ≤ S.length ∧ Aside (LogE wr lb db mb room es' seg cnt sure) ∧ Aside (wdropL n S L = wdropL n (S.drop k) (es'.map val)) ∧ Aside (Mv (footW lb db mb es) w wr) ∧ Aside (∀ k, foot db mb es' k → foot db mb es k ∨ w.heap.size ≤ k) ∧
      Aside (Rd wr A (S.map Ni)) ∧ Aside (∀ g, A.map (·.block) = some g → ¬ footW lb db mb es' g ∧ g < wr.heap.size) ∧ Aside (∀ m ∈ S.drop k, lookL (es'.map val) (titleN m) ≠ none)) (fun s23 _ => S.length - (intOf s23).toNat)
    case atStart => exact ⟨0, es, rfl, by omega, HL1.out, (show wdropL n S L = wdropL n (S.drop 0) (es.map val) from by rw [List.drop_zero, HL.out]), Mv.of_below HB1.out _, fun k hk => .inl hk, HR.out, (fun g hg => ⟨HOFF.out g hg, HLTG.out g hg⟩), (fun m hm => by rw [← HL.out]; exact (HIN.out m (by simpa using hm)).2)⟩
    case round =>
      clear HL1 HR HOFF
      obtain ⟨k, es2, rfl, hk, LE, WD, MV, FT, RD, OF, LK⟩ := hrel
      have k0 : (0 : Int) ≤ (k : Int) := by omega
      by_cases hlt : k < S.length
      · have k1 : (k : Int) < (S.length : Int) := by omega
        have k2 : (k : Int) ≤ (c : Int) := by omega
        obtain ⟨m, hm⟩ : ∃ m, S[k]? = some m := ⟨_, List.getElem?_eq_getElem hlt⟩
        have hdr : S.drop k = m :: S.drop (k + 1) := by
          obtain ⟨h1, h2⟩ := List.getElem?_eq_some_iff.1 hm
          rw [List.drop_eq_getElem_cons h1, h2]
        obtain ⟨hm1, -⟩ := HIN.out m (List.mem_of_getElem? hm)
        obtain ⟨ab, ao, rfl, hac⟩ := rd_at RD.out (k := k) (v := Ni m) (by rw [List.getElem?_map, hm]; rfl)
        have l0 := hac wr (Below.refl _ _)
        unfold Ni at l0
        have hwd := WD.out
        rw [hdr, wdropL] at hwd
        have hml := LK.out m (by rw [hdr]; exact List.mem_cons_self ..)
        obtain ⟨d0, d1, d2, d3⟩ := LE.out.cells
        by_cases hnm : n ≤ (m : Int)
        · rw [if_pos hnm] at hwd
          have HWD := Lib.hid hwd; have HLE := Lib.hid LE.out; have HMV := Lib.hid MV.out; have HFT := Lib.hid FT.out
          clear hwd LE WD MV FT RD OF LK hm hdr hac hml
          go_wp2
          go_ret
          exact ⟨rfl, es2, HLE.out, HWD.out.symm, HMV.out, HFT.out⟩
        · rw [if_neg hnm] at hwd
          have hne : ∀ j ∈ S.drop (k + 1), titleN j ≠ titleN m := fun j hj e => by
            have hj2 := (HIN.out j (List.mem_of_mem_drop hj)).1
            have e2 := title_inj hj2 hm1 e
            subst e2
            have hp := List.Pairwise.drop (i := k) HRI.out
            rw [hdr, List.pairwise_cons] at hp
            exact absurd (hp.1 j hj) (Nat.lt_irrefl _)
          have hrm := fun (W' : World) (hb : Below wr.heap.size wr W') => remove_any (LE.out.below hb).disk (titleN m) (by have := title_le m; unfold maxLen; omega)
          have hnmd := named_rem LE.out.named (titleN m)
          have hcode : (remD (es2.map val) (titleN m)).1 = 0 := by
            unfold remD
            cases ho : lookL (es2.map val) (titleN m) with
            | none => exact absurd ho hml
            | some f => rfl
          have hlk2 : ∀ j ∈ S.drop (k + 1), lookL (remD (es2.map val) (titleN m)).2 (titleN j) ≠ none := fun j hj => by
            rw [look_rem (hne j hj)]
            exact LK.out j (by rw [hdr]; exact List.mem_cons_of_mem _ hj)
          generalize remD (es2.map val) (titleN m) = RA at hrm hnmd hcode hlk2 hwd
          obtain ⟨ra, la⟩ := RA
          simp only at hnmd hcode hlk2 hwd
          subst hcode
          have HRM := Lib.hid hrm; have HNMD := Lib.hid hnmd; have HLK := Lib.hid hlk2; have HWD := Lib.hid hwd
          have HLE := Lib.hid LE.out; have HMV := Lib.hid MV.out; have HFT := Lib.hid FT.out; have HRD := Lib.hid RD.out; have HOF := Lib.hid OF.out
          have HTT := Lib.hid (fun (W' : World) (hb : Below wr.heap.size wr W') => title_any (m : Int) (by omega) (by omega) W' (LE.out.below hb).tab.now)
          have HS := Lib.hid (fun (W' : World) (hb : Below wr.heap.size wr W') => (LE.out.below hb).cells.1)
          have HBc := Lib.hid (Below.refl wr.heap.size wr)
          clear hwd LE WD MV FT RD OF LK hm hdr hac hml hne hrm hnmd hlk2
          go_wp2_with fail
          go_region_held3 (fun W' => W'.cell? ⟨lb, 0, none⟩ = some (.pointer (some ⟨db, 0, none⟩))) (first | exact HL9.out.cells.1 | exact HS.out _ HBc.out | exact HS.out _ (below_drewN HBc.out _)) (first
            | (go_at_call 12; go_must (refine (HTT.out _ (by first | exact HBc.out | exact below_drewN HBc.out _)).mono ?_; rintro e wq ⟨rfl, hbq⟩; (try (have hq1 := undrewB hbq; clear hbq; have hbq := hq1; clear hq1)); have hq1 := HBc.out.trans (hbq.mono HBc.out.size); have HBc := Lib.hid hq1; clear hq1 hbq))
            | (go_at_call 72; go_must (refine (HRM.out _ (by first | exact HBc.out | exact below_drewN HBc.out _)).mono ?_; rintro e wq hM; obtain ⟨rfl, es9, L9, v9, m9, f9⟩ := (HLE.out.below (by first | exact HBc.out | exact below_drewN HBc.out _)).mut hM HNMD.out; have HL9 := Lib.hid L9; have HV9 := Lib.hid (show es9.map val = la from v9); have HM9 := Lib.hid ((Mv.of_below (by first | exact HBc.out | exact below_drewN HBc.out _) _).trans m9 (fun _ _ hk => hk)); have HF9 := Lib.hid (fun k hk => (f9 k hk).imp id (Nat.le_trans HBc.out.size)); clear hM L9 v9 m9 f9))
            | fail)
          all_goals
            have HRD9 := Lib.hid (show Rd wq (some ⟨ab, ao, none⟩) (S.map Ni) from HM9.out.rd HRD.out fun j hj hb hf => (HOF.out j hb).1 hf)
            have HOF9 := Lib.hid (show ∀ g, (some (⟨ab, ao, none⟩ : Addr)).map (·.block) = some g → ¬ footW lb db mb es9 g ∧ g < wq.heap.size from fun g hg => by
              obtain ⟨o1, o2⟩ := HOF.out g hg
              refine ⟨fun hf => ?_, Nat.lt_of_lt_of_le o2 HM9.out.size⟩
              rcases hf with hf | hf
              · exact o1 (.inl hf)
              · rcases HF9.out g hf with hf | hf
                · exact o1 (.inr hf)
                · omega)
            have HMV9 := Lib.hid (show Mv (footW lb db mb es) w wq from HMV.out.trans HM9.out fun j hj hk => hk.elim .inl fun hk => (HFT.out j hk).elim .inr fun h => absurd hj (by omega))
            have HFT9 := Lib.hid (show ∀ k, foot db mb es9 k → foot db mb es k ∨ w.heap.size ≤ k from fun j hj => (HF9.out j hj).elim (HFT.out j) fun h => .inr (Nat.le_trans HMV.out.size h))
            go_wp2
            go_roundw
            case rel => first
              | exact ⟨k + 1, es9, by go_num, by omega, (show Aside _ from HL9.out), (show wdropL n S L = wdropL n (S.drop (k + 1)) (es9.map val) from by rw [HV9.out]; exact HWD.out), (show Aside _ from HMV9.out), (show Aside _ from HFT9.out), (show Aside _ from HRD9.out), (show Aside _ from HOF9.out), (fun m hm => by rw [HV9.out]; exact HLK.out m hm)⟩
              | exact ⟨k + 1, es9, by go_num, by omega, (show Aside _ from HL9.out.drewN _), (show wdropL n S L = wdropL n (S.drop (k + 1)) (es9.map val) from by rw [HV9.out]; exact HWD.out), (show Aside _ from HMV9.out.drewN _), (show Aside _ from HFT9.out), (show Aside _ from HRD9.out.drewN _), (show Aside _ from HOF9.out), (fun m hm => by rw [HV9.out]; exact HLK.out m hm)⟩
            case measure => simp [intOf]; omega
      · obtain rfl : k = S.length := by omega
        have hwd := WD.out
        rw [List.drop_length, wdropL] at hwd
        have HWD := Lib.hid hwd; have HLE := Lib.hid LE.out; have HMV := Lib.hid MV.out; have HFT := Lib.hid FT.out
        clear hwd LE WD MV FT RD OF LK
        go_wp2
        go_ret
        exact ⟨rfl, es2, HLE.out, HWD.out.symm, HMV.out, HFT.out⟩
end
end
section
set_option linter.unusedVariables false
set_option linter.unusedSimpArgs false
open Go.RowKit
/-- A log, all of it newer than W, and what it is. -/
structure LogS (W w : World) (lb db mb room : Nat) (es : List Ent) (g : Lg) : Prop where
  l : LogE w lb db mb room es g.2.1 g.2.2.1 g.2.2.2
  is : es.map val = g.1
  far : ∀ k, footW lb db mb es k → W.heap.size ≤ k
  low : Below W.heap.size W w
/-- A disk, all of it newer than W. -/
structure DiskS (W w : World) (db mb room : Nat) (es : List Ent) (L : List Fl) : Prop where
  d : DiskE w db mb room es
  named : Named (es.map val)
  is : es.map val = L
  far : ∀ k, foot db mb es k → W.heap.size ≤ k
  low : Below W.heap.size W w
  tab : TabW W
section
variable {W w w' : World} {lb db mb room : Nat} {es : List Ent} {g g' : Lg} {L : List Fl} {c : Int} {e : Ending}
theorem LogS.below (h : LogS W w lb db mb room es g) (hb : Below w.heap.size w w') : LogS W w' lb db mb room es g := ⟨h.l.below hb, h.is, h.far, h.low.trans (hb.mono h.low.size)⟩
theorem DiskS.below (h : DiskS W w db mb room es L) (hb : Below w.heap.size w w') : DiskS W w' db mb room es L := ⟨h.d.below hb, h.named, h.is, h.far, h.low.trans (hb.mono h.low.size), h.tab⟩
theorem DiskS.on (h : DiskS W w db mb room es L) : TabOn w (foot db mb es) := ⟨W, h.tab, h.low, h.far⟩
theorem LogS.step (h : LogS W w lb db mb room es g) (hM : LogOut w lb db mb room es c g' e w') : e = .returned (.int .i64 c) ∧ ∃ es', LogS W w' lb db mb room es' g' := by
  obtain ⟨h1, es', h2, h3, h4, h5⟩ := hM
  refine ⟨h1, es', h2, h3, fun k hk => ?_, h.low.trans (h4.belowB h.low.size fun k hk hf => by have := h.far k hf; omega)⟩
  rcases hk with rfl | hk
  · exact h.far _ (.inl rfl)
  · rcases h5 k hk with hk | hk
    · exact h.far k (.inr hk)
    · exact Nat.le_trans h.low.size hk
/-- What else a step tells: which blocks it moved, and which it may move now. -/
def Steps (w w' : World) (lb db mb : Nat) (es es' : List Ent) : Prop := Mv (footW lb db mb es) w w' ∧ ∀ k, foot db mb es' k → foot db mb es k ∨ w.heap.size ≤ k
theorem LogS.step2 (h : LogS W w lb db mb room es g) (hM : LogOut w lb db mb room es c g' e w') : e = .returned (.int .i64 c) ∧ ∃ es', LogS W w' lb db mb room es' g' ∧ Steps w w' lb db mb es es' := by
  obtain ⟨h1, es', h2, h3, h4, h5⟩ := hM
  refine ⟨h1, es', ⟨h2, h3, fun k hk => ?_, h.low.trans (h4.belowB h.low.size fun k hk hf => by have := h.far k hf; omega)⟩, h4, h5⟩
  rcases hk with rfl | hk
  · exact h.far _ (.inl rfl)
  · rcases h5 k hk with hk | hk
    · exact h.far k (.inr hk)
    · exact Nat.le_trans h.low.size hk
/-- A call of the disk below a log. -/
theorem LogS.mut (h : LogS W w lb db mb room es g) {r : Int × List Fl} (hM : MutOut w db mb room es r e w') (hn : Named r.2) : e = .returned (.int .i64 r.1) ∧ ∃ es', LogS W w' lb db mb room es' (r.2, g.2) := by
  obtain ⟨h1, es', h2, h3, h4, h5⟩ := h.l.mut hM hn
  exact ⟨h1, (h.step (c := r.1) (g' := (r.2, g.2)) ⟨h1, es', h2, h3, h4, h5⟩).2⟩
theorem crash_mut (h : DiskE w db mb room es) (keep : Int) {e : Ending} (hM : e = .returned (.tuple #[]) ∧ ∃ es', DiskE w' db mb room es' ∧ es'.map val = crashD keep (es.map val) ∧ Mv (foot db mb es) w w' ∧ ∀ k, foot db mb es' k → foot db mb es k) :
    MutOut w db mb room es (0, crashD keep (es.map val)) (.returned (.int .i64 0)) w' := by
  obtain ⟨-, es', h1, h2, h3, h4⟩ := hM
  exact ⟨rfl, es', h1, h2, h3, fun k hk => .inl (h4 k hk)⟩
/-- The disk below a log. -/
theorem LogS.disk (h : LogS W w lb db mb room es g) (hT : TabW W) : DiskS W w db mb room es g.1 := ⟨h.l.disk, h.l.named, h.is, fun k hk => h.far k (.inr hk), h.low, hT⟩
/-- What was made of the disk by another log, beside which the elder one lies on. -/
theorem LogS.other {es' : List Ent} (h : LogS W w lb db mb room es g) (hd : DiskE w' db mb room es') (hn : Named (es'.map val)) (hm : Mv (foot db mb es) w w') (hf : ∀ k, foot db mb es' k → foot db mb es k ∨ w.heap.size ≤ k) : LogS W w' lb db mb room es' (es'.map val, g.2) := by
  have hb := blk_lt h.l.box
  have hoff : ¬ foot db mb es' lb := fun hk => (hf lb hk).elim h.l.off fun h => by omega
  refine ⟨⟨(hm.block lb hb h.l.off).trans h.l.box, hd, hn, hoff, h.l.seg1, h.l.tab.mv (hm.mono fun k _ hk => .inr hk) fun k hk => ?_⟩, rfl, fun k hk => ?_, h.low.trans (hm.belowB h.low.size fun k hk hf => by have := h.far k (.inr hf); omega)⟩
  · rcases hk with rfl | hk
    · exact .inl (.inl rfl)
    · exact (hf k hk).imp .inr id
  · rcases hk with rfl | hk
    · exact h.far _ (.inl rfl)
    · rcases hf k hk with hk | hk
      · exact h.far k (.inr hk)
      · exact Nat.le_trans h.low.size hk
theorem LogS.app (h : LogS W w lb db mb room es g) (A : Option Addr) (k : Nat) (b : List UInt8) (hx : Rd w A (b.map Bv)) (hbl : b.length ≤ 1048576) (hc : g.2.2.1 ≤ 1000000000) :
    Calls Tryz.prog 28 #[.pointer (some ⟨lb, 0, none⟩), .slice A b.length k] w fun e w' => e = .returned (.int .i64 (wappP room g b).1) ∧ ∃ es', LogS W w' lb db mb room es' (wappP room g b).2 := by
  have hM := wappend_any h.l A k b hx hbl hc
  rw [h.is] at hM
  exact hM.mono fun e w' hm => h.step hm
theorem LogS.app2 (h : LogS W w lb db mb room es g) (A : Option Addr) (k : Nat) (b : List UInt8) (hx : Rd w A (b.map Bv)) (hbl : b.length ≤ 1048576) (hc : g.2.2.1 ≤ 1000000000) :
    Calls Tryz.prog 28 #[.pointer (some ⟨lb, 0, none⟩), .slice A b.length k] w fun e w' => e = .returned (.int .i64 (wappP room g b).1) ∧ ∃ es', LogS W w' lb db mb room es' (wappP room g b).2 ∧ Steps w w' lb db mb es es' := by
  have hM := wappend_any h.l A k b hx hbl hc
  rw [h.is] at hM
  exact hM.mono fun e w' hm => h.step2 hm
theorem LogS.sync2 (h : LogS W w lb db mb room es g) : Calls Tryz.prog 30 #[.pointer (some ⟨lb, 0, none⟩)] w fun e w' => e = .returned (.int .i64 0) ∧ ∃ es', LogS W w' lb db mb room es' (wsyncP g) ∧ Steps w w' lb db mb es es' := by
  have hM := wsync_any h.l
  rw [h.is] at hM
  exact hM.mono fun e w' hm => h.step2 hm
theorem LogS.roll2 (h : LogS W w lb db mb room es g) : Calls Tryz.prog 31 #[.pointer (some ⟨lb, 0, none⟩)] w fun e w' => e = .returned (.int .i64 (wrollP g).1) ∧ ∃ es', LogS W w' lb db mb room es' (wrollP g).2 ∧ Steps w w' lb db mb es es' := by
  have hM := roll_any h.l
  rw [h.is] at hM
  exact hM.mono fun e w' hm => h.step2 hm
theorem LogS.drop2 (h : LogS W w lb db mb room es g) (n : Int) : Calls Tryz.prog 38 #[.pointer (some ⟨lb, 0, none⟩), .int .i64 n] w fun e w' => e = .returned (.int .i64 (wdropP g n).1) ∧ ∃ es', LogS W w' lb db mb room es' (wdropP g n).2 ∧ Steps w w' lb db mb es es' := by
  have hM := wdrop_any h.l n
  rw [h.is] at hM
  exact hM.mono fun e w' hm => h.step2 hm
theorem LogS.crash2 (h : LogS W w lb db mb room es g) (keep : Int) : Calls Tryz.prog 33 #[.pointer (some ⟨db, 0, none⟩), .int .i64 keep] w fun e w' => e = .returned (.tuple #[]) ∧ ∃ es', LogS W w' lb db mb room es' (crashD keep g.1, g.2) ∧ Steps w w' lb db mb es es' := by
  refine (crash_any h.l.disk keep).mono fun e w' hm => ⟨hm.1, ?_⟩
  have hn := named_crash h.l.named keep
  obtain ⟨-, es', h2, h3, h4, h5⟩ := h.l.mut (crash_mut h.l.disk keep hm) hn
  obtain ⟨-, es2, h6, h7⟩ := h.step2 (c := 0) (g' := (crashD keep (es.map val), g.2)) ⟨rfl, es', h2, h3, h4, h5⟩
  rw [h.is] at h6
  exact ⟨es2, h6, h7⟩
/-- A row of the law's own grew beside a log. -/
theorem LogS.grown {v : Value} (h : LogS W w lb db mb room es g) (hT : TabW W) (hg : w.grownBy w' v.ownBlock) (hv : ∀ k, v.ownBlock = some k → ¬ footW lb db mb es k) (hB : ∀ k, v.ownBlock = some k → W.heap.size ≤ k) : LogS W w' lb db mb room es g := by
  have hm : Mv (fun k => v.ownBlock = some k) w w' := (Mv.refl _ w).grown hg fun k _ hk => hk
  have hne : ∀ k, footW lb db mb es k → w'.heap[k]? = w.heap[k]? := fun k hk => hm.block k (h.l.lt hk) fun hs => hv k hs hk
  have hb : Below W.heap.size W w' := h.low.trans (hm.belowB h.low.size fun k hk hs => by have := hB k hs; omega)
  exact ⟨⟨(hne lb (.inl rfl)).trans h.l.box, h.l.disk.moved fun k hk => hne k (.inr hk), h.l.named, h.l.off, h.l.seg1, ⟨W, hT, hb, h.far⟩⟩, h.is, h.far, hb⟩
/-- Rows of bytes of the law's own beside a log. -/
structure AllS (w : World) (lb db mb : Nat) (es : List Ent) (B : Nat) (v : Value) (P : List (Option Addr × Nat × List UInt8)) : Prop where
  a : AllIs w B v P
  list : ∀ k, v.ownBlock = some k → ¬ footW lb db mb es k
  rows : ∀ p ∈ P, ∀ k, (partV p).ownBlock = some k → ¬ footW lb db mb es k
theorem AllS.below {B : Nat} {v : Value} {P : List (Option Addr × Nat × List UInt8)} (h : AllS w lb db mb es B v P) (hb : Below w.heap.size w w') : AllS w' lb db mb es B v P := ⟨h.a.below hb, h.list, h.rows⟩
theorem AllS.steps {B : Nat} {v : Value} {P : List (Option Addr × Nat × List UInt8)} {es' : List Ent} (h : AllS w lb db mb es B v P) (hs : Steps w w' lb db mb es es') : AllS w' lb db mb es' B v P := by
  have hoff : ∀ k, k < w.heap.size → ¬ footW lb db mb es k → ¬ footW lb db mb es' k := fun k hk hn hf => by
    rcases hf with hf | hf
    · exact hn (.inl hf)
    · rcases hs.2 k hf with hf | hf
      · exact hn (.inr hf)
      · omega
  exact ⟨⟨own_moved h.a.1 fun k hk => hs.1.block k (h.a.1.lt k hk).2 (h.list k hk), fun p hp => own_moved (h.a.2 p hp) fun k hk => hs.1.block k ((h.a.2 p hp).lt k hk).2 (h.rows p hp k hk)⟩,
    fun k hk => hoff k (h.a.1.lt k hk).2 (h.list k hk), fun p hp k hk => hoff k ((h.a.2 p hp).lt k hk).2 (h.rows p hp k hk)⟩
/-- One row more. -/
theorem AllS.snoc {w1 : World} {B : Nat} {v v1 : Value} {P : List (Option Addr × Nat × List UInt8)} {p : Option Addr × Nat × List UInt8} (h : AllS w lb db mb es B v P) (hp : w.ownsRow B 5 1 (partV p) p.2.2.length (p.2.2.map Bv)) (hoff : ∀ k, (partV p).ownBlock = some k → ¬ footW lb db mb es k)
    (hlt : ∀ k, footW lb db mb es k → k < w.heap.size) (h1 : w1.ownsRow B 29 1 v1 (P.length + 1) (P.map partV ++ [partV p])) (hg : w.grownBy w1 v.ownBlock) (hv : v1.ownBlock = v.ownBlock ∨ v1.ownBlock = some w.heap.size) : AllS w1 lb db mb es B v1 (P ++ [p]) := by
  refine ⟨h.a.snoc hp h1 hg, fun k hk hf => ?_, fun q hq => ?_⟩
  · rcases hv with hv | hv
    · exact h.list k (by rw [← hv]; exact hk) hf
    · rw [hv] at hk; injection hk with hk; have := hlt k hf; omega
  · rcases List.mem_append.1 hq with hq | hq
    · exact h.rows q hq
    · rw [List.mem_singleton] at hq; subst hq; exact hoff
theorem LogS.app_len (h : LogS W w lb db mb room es g) (A : Option Addr) (k n : Nat) (b : List UInt8) (hn : b.length = n) (hx : Rd w A (b.map Bv)) (hbl : n ≤ 1048576) (hc : g.2.2.1 ≤ 1000000000) :
    Calls Tryz.prog 28 #[.pointer (some ⟨lb, 0, none⟩), .slice A n k] w fun e w' => e = .returned (.int .i64 (wappP room g b).1) ∧ ∃ es', LogS W w' lb db mb room es' (wappP room g b).2 := by
  subst hn
  exact h.app A k b hx hbl hc
theorem LogS.sync (h : LogS W w lb db mb room es g) : Calls Tryz.prog 30 #[.pointer (some ⟨lb, 0, none⟩)] w fun e w' => e = .returned (.int .i64 0) ∧ ∃ es', LogS W w' lb db mb room es' (wsyncP g) := by
  have hM := wsync_any h.l
  rw [h.is] at hM
  exact hM.mono fun e w' hm => h.step hm
theorem LogS.roll (h : LogS W w lb db mb room es g) : Calls Tryz.prog 31 #[.pointer (some ⟨lb, 0, none⟩)] w fun e w' => e = .returned (.int .i64 (wrollP g).1) ∧ ∃ es', LogS W w' lb db mb room es' (wrollP g).2 := by
  have hM := roll_any h.l
  rw [h.is] at hM
  exact hM.mono fun e w' hm => h.step hm
theorem LogS.drop (h : LogS W w lb db mb room es g) (n : Int) : Calls Tryz.prog 38 #[.pointer (some ⟨lb, 0, none⟩), .int .i64 n] w fun e w' => e = .returned (.int .i64 (wdropP g n).1) ∧ ∃ es', LogS W w' lb db mb room es' (wdropP g n).2 := by
  have hM := wdrop_any h.l n
  rw [h.is] at hM
  exact hM.mono fun e w' hm => h.step hm
theorem LogS.crash (h : LogS W w lb db mb room es g) (keep : Int) : Calls Tryz.prog 33 #[.pointer (some ⟨db, 0, none⟩), .int .i64 keep] w fun e w' => e = .returned (.tuple #[]) ∧ ∃ es', LogS W w' lb db mb room es' (crashD keep g.1, g.2) := by
  refine (crash_any h.l.disk keep).mono fun e w' hm => ⟨hm.1, ?_⟩
  have hn := named_crash h.l.named keep
  have := (h.mut (crash_mut h.l.disk keep hm) hn).2
  rw [h.is] at this
  exact this
/-- Opened: no gap, and nothing wrong. -/
theorem DiskS.opened (h : DiskS W w db mb room es L) (hO : WOpenOut w db mb room es e w') (hg : ¬ gapW (segsW L)) {x : List (List UInt8)} {cut : Option Nat} (hr : openR L (lastW (segsW L)) (segsW L) = (x, 0, cut)) :
    ∃ lb v P es', e = .returned (.tuple #[.pointer (some ⟨lb, 0, none⟩), v, .int .i64 0]) ∧ AllIs w' w.heap.size v P ∧ P.map (·.2.2) = x ∧ LogS W w' lb db mb room es' (cutW L (lastW (segsW L)) cut, lastW (segsW L), x.length, x.length) ∧
      Mv (foot db mb es) w w' ∧ ∀ k, foot db mb es' k → foot db mb es k ∨ w.heap.size ≤ k := by
  obtain ⟨hd, hn, rfl, hf, hl, ht⟩ := h
  unfold WOpenOut at hO
  rw [hr] at hO
  rcases hO with ⟨h1, -⟩ | ⟨-, h1, -⟩ | ⟨-, -, lb, v, P, es', rfl, hP, hx, hL, hv, hm, hft, hlb⟩
  · exact absurd h1 hg
  · exact absurd rfl h1
  · have hpl : P.length = x.length := by
      have := congrArg List.length hx
      rwa [List.length_map] at this
    rw [hpl] at hL
    refine ⟨lb, v, P, es', rfl, hP, hx, ⟨hL, hv, fun k hk => ?_, hl.trans (hm.belowB hl.size fun k hk hs => by have := hf k hs; omega)⟩, hm, hft⟩
    rcases hk with rfl | hk
    · exact Nat.le_trans hl.size hlb
    · rcases hft k hk with hk | hk
      · exact hf k hk
      · exact Nat.le_trans hl.size hk
theorem DiskS.open (h : DiskS W w db mb room es L) : Calls Tryz.prog 27 #[.pointer (some ⟨db, 0, none⟩)] w (WOpenOut w db mb room es) := wopen_any h.d h.named h.on
end
end
end Go.Proofs.YtnmbjhpecblioaaGreatDoor
