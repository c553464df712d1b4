/-
  The plain answers: the text of matchers, and the sign that a text begins with.
-/
import Derived.Test.YtinjdlplbficiaaGreatDoorMpr
import Derived.Test.YtinjdlplbficiaaGreatDoorMpr2
import Derived.Test.YtinjdlplbficiaaGreatDoorRst
import Derived.Test.YtinjdlplbficiaaGreatDoorRq
namespace Go.Proofs.YtinjdlplbficiaaGreatDoor
set_option linter.unusedVariables false
set_option linter.unusedSimpArgs false
open Go.RowKit
theorem run_add (u : World) (a b : ByteArray) (h : a.size + b.size ≤ 9223372036854775807) : (Op.stringOp .add a b).run Tryz.prog u = .ok (.string (a ++ b)) u := run_string_add_sum (P := Tryz.prog) u a b h
theorem size_app (a b : ByteArray) : (a ++ b).size = a.size + b.size := by simp
theorem braces_size {r : List Mt'} (hf : FewM r) : (bracesM r).length ≤ 1000000000 := by
  have hbr : ∀ (r : List Mt') (k : Nat), (∀ m ∈ r, m.2.1.size ≤ 6000 ∧ m.2.2.size ≤ 6000) → (bracesFrom k r).length ≤ r.length * 20000 + 1 := by
    intro r
    induction r with
    | nil => intro k _; simp [bracesFrom]
    | cons m r ih =>
      intro k hr
      obtain ⟨a, b⟩ := hr m (by simp)
      have hs := sign_len m.1
      have hq := quoteP_le (bl m.2.2)
      have hn := bl_len m.2.1
      rw [bl_len] at hq
      have := ih (k + 1) (fun x hx => hr x (by simp [hx]))
      rw [bracesFrom, List.length_append, List.length_append, List.length_cons]
      unfold oneT
      rw [List.length_append, List.length_append]
      have h2 : (if k = 0 then ([] : Bs) else [44, 32]).length ≤ 2 := by split <;> simp
      omega
  have := hbr r 0 hf.2
  have := hf.1
  unfold bracesM
  rw [List.length_cons]
  omega
section
set_option maxHeartbeats 3200000
set_option maxRecDepth 100000
theorem rsign_any (k : Int) (w : World) : Calls Tryz.prog 41 #[.int .i64 k] w fun e w' => e = .returned (.string (mkB (signM k))) ∧ w' = w := by
  unfold signM
  by_cases h1 : k = 1
  · subst h1; go_enter Tryz.func41, Tryz.ntmps41; go_wp2; go_ret; exact ⟨rfl, rfl⟩
  · rw [if_neg h1]
    by_cases h2 : k = 2
    · subst h2; go_enter Tryz.func41, Tryz.ntmps41; go_wp2; go_ret; exact ⟨rfl, rfl⟩
    · rw [if_neg h2]
      by_cases h3 : k = 3
      · subst h3; go_enter Tryz.func41, Tryz.ntmps41; go_wp2; go_ret; exact ⟨rfl, rfl⟩
      · rw [if_neg h3]
        by_cases h4 : k = 4
        · subst h4; go_enter Tryz.func41, Tryz.ntmps41; go_wp2; go_ret; exact ⟨rfl, rfl⟩
        · rw [if_neg h4]; go_enter Tryz.func41, Tryz.ntmps41; go_wp2; go_ret; exact ⟨rfl, rfl⟩
theorem rbraces_any (A : Option Addr) (c : Nat) (l : List Mt') (w : World) (hx : Rd w A (mcells l)) (hf : FewM l) : Calls Tryz.prog 24 #[.slice A l.length c] w fun e w' =>
    e = .returned (.string (mkB (bracesM l))) ∧ RowKit.Below w.heap.size w w' := by
  obtain ⟨R, hR⟩ : ∃ R, R = bracesM l := ⟨_, rfl⟩
  rw [← hR]
  have hfl := hf.1
  have HX := Lib.hid hx; have HF := Lib.hid hf.2
  have HST := Lib.hid (show R = bl ⟨#[123]⟩ ++ bracesFrom 0 (l.drop 0) by rw [hR]; rfl)
  clear hx hR
  go_enter Tryz.func24, Tryz.ntmps24
  go_wp2
  go_loopw [8, 3] (fun s8 s3 wr => ∃ (k : Nat) (acc : ByteArray), s8 = .int .i64 k ∧ k ≤ l.length ∧ s3 = .string acc ∧ acc.size ≤ k * 20000 + 1 ∧ Aside (RowKit.Below w.heap.size w wr) ∧ Aside (R = bl acc ++ bracesFrom k (l.drop k))) (fun s8 _ _ => l.length - (intOf s8).toNat)
  case atStart => exact ⟨0, ⟨#[123]⟩, rfl, by omega, rfl, by decide, RowKit.Below.refl _ _, HST.out⟩
  case round =>
    obtain ⟨k, acc, rfl, hk, rfl, hal, BW, E⟩ := hrel
    have k0 : (0 : Int) ≤ (k : Int) := by omega
    by_cases hlt : k < l.length
    · have k1 : (k : Int) < (l.length : Int) := by omega
      obtain ⟨b, off, rfl, c0, c1, c2⟩ := mt_at (HX.out.below BW.out) hlt
      have hfx := HF.out l[k] (List.getElem_mem hlt)
      have hE : R = bl acc ++ ((if k = 0 then [] else [44, 32]) ++ (oneT l[k] ++ bracesFrom (k + 1) (l.drop (k + 1)))) := by
        rw [E.out, List.drop_eq_getElem_cons hlt, bracesFrom]
      have HE := Lib.hid hE; clear hE E
      generalize l[k] = x at c0 c1 c2 hfx HE
      obtain ⟨x1, x2, x3⟩ := x
      simp only at hfx c0 c1 c2
      obtain ⟨f1, f2⟩ := hfx
      have hss : (mkB (signM x1)).size ≤ 2 := by rw [mkB_size]; exact sign_len x1
      have hqs : (mkB (quoteP (bl x3))).size ≤ 2 * x3.size + 2 := by rw [mkB_size]; have := quoteP_le (bl x3); rw [bl_len] at this; exact this
      have hsg := fun W => rsign_any x1 W
      have hq := fun W => rquote_any x3 W (by omega)
      have hsb := bl_mk (signM x1)
      have hqb := bl_mk (quoteP (bl x3))
      generalize mkB (signM x1) = sg at hss hsg hsb
      generalize mkB (quoteP (bl x3)) = q at hqs hq hqb
      obtain ⟨W, hW⟩ : ∃ W, W = wr.alloc (.cells #[.int .i64 x1, .string x2, .string x3] 37) := ⟨_, rfl⟩
      have hbW : RowKit.Below wr.heap.size wr W := by rw [hW]; exact (RowKit.Below.refl _ wr).alloc (Nat.le_refl _) _
      have hbx : W.heap[wr.heap.size]? = some (.cells #[.int .i64 x1, .string x2, .string x3] 37 (0, 0)) := by rw [hW]; exact heap_alloc_new wr _
      have HS := Lib.hid (fun (W' : World) (hb : RowKit.Below W.heap.size W W') => show W'.cell? ⟨wr.heap.size, 0, none⟩ = some (.int .i64 x1) ∧ W'.cell? ⟨wr.heap.size, 1, none⟩ = some (.string x2) ∧ W'.cell? ⟨wr.heap.size, 2, none⟩ = some (.string x3) from by
        have h := (hb.block _ (blk_lt hbx)).trans hbx
        have e0 := cell_blk h 0; have e1 := cell_blk h 1; have e2 := cell_blk h 2
        simp only [List.getElem?_toArray, List.getElem?_cons_zero, List.getElem?_cons_succ] at e0 e1 e2
        exact ⟨e0, e1, e2⟩)
      have HWW := Lib.hid (BW.out.trans (hbW.mono BW.out.size))
      have HBc := Lib.hid (RowKit.Below.refl W.heap.size W)
      have HSG := Lib.hid hsg; have HQ := Lib.hid hq; have HW := Lib.hid hW
      clear hsg hq hW hbW hbx
      have r1 := fun u => run_add u x2 sg (by omega)
      have y1s := size_app x2 sg
      have y1b := bl_app x2 sg
      generalize x2 ++ sg = y1 at r1 y1s y1b
      have r2 := fun u => run_add u y1 q (by omega)
      have y2s := size_app y1 q
      have y2b := bl_app y1 q
      generalize y1 ++ q = y2 at r2 y2s y2b
      by_cases h0 : k = 0
      · subst h0
        rw [Nat.zero_mul, Nat.add_zero] at c0 c1 c2
        have r3 := fun u => run_add u acc y2 (by omega)
        have y3s := size_app acc y2
        have y3b := bl_app acc y2
        generalize acc ++ y2 = y3 at r3 y3s y3b
        have HE2 := Lib.hid (show R = bl y3 ++ bracesFrom 1 (l.drop 1) by rw [HE.out, y3b, y2b, y1b, hsb, hqb]; simp [oneT]); clear HE
        clear y1b y2b y3b hsb hqb
        go_wp2_with fail
        rw [← HW.out]
        go_region_held3 (fun W' => W'.cell? ⟨wr.heap.size, 0, none⟩ = some (.int .i64 x1) ∧ W'.cell? ⟨wr.heap.size, 1, none⟩ = some (.string x2) ∧ W'.cell? ⟨wr.heap.size, 2, none⟩ = some (.string x3)) (first | exact HS.out _ HBc.out | exact HS.out _ (below_drewN HBc.out _)) (first
          | (go_at_call 41; go_must (refine (HSG.out _).mono ?_; rintro e wq ⟨rfl, rfl⟩))
          | (go_at_call 42; go_must (refine (HQ.out _).mono ?_; rintro e wq ⟨rfl, hbq⟩; (try (have hq1 := undrewM hbq; clear hbq; have hbq := hq1; clear hq1)); have hq1 := HBc.out.trans (hbq.mono HBc.out.size); have HBc := Lib.hid hq1; clear hq1 hbq))
          | fail)
        all_goals
          go_wp2_with fail
          go_roundw
          case rel => exact ⟨1, y3, by go_num, by omega, rfl, by omega, (by first | exact HWW.out.trans (HBc.out.mono HWW.out.size) | exact below_drewN (HWW.out.trans (HBc.out.mono HWW.out.size)) _), (show Aside _ from HE2.out)⟩
          case measure => simp [intOf]; omega
      · have g0 : (0 : Int) < (k : Int) := by omega
        have r0 := fun u => run_add u acc ⟨#[44, 32]⟩ (by show acc.size + 2 ≤ _; omega)
        have y0s := size_app acc ⟨#[44, 32]⟩
        have y0b := bl_app acc ⟨#[44, 32]⟩
        rw [show (⟨#[44, 32]⟩ : ByteArray).size = 2 from rfl] at y0s
        generalize acc ++ (⟨#[44, 32]⟩ : ByteArray) = y0 at r0 y0s y0b
        have r3 := fun u => run_add u y0 y2 (by omega)
        have y3s := size_app y0 y2
        have y3b := bl_app y0 y2
        generalize y0 ++ y2 = y3 at r3 y3s y3b
        have HE2 := Lib.hid (show R = bl y3 ++ bracesFrom (k + 1) (l.drop (k + 1)) by rw [HE.out, y3b, y0b, y2b, y1b, hsb, hqb, if_neg h0]; simp [oneT, bl]); clear HE
        clear y1b y2b y3b y0b hsb hqb
        go_wp2_with fail
        rw [← HW.out]
        go_region_held3 (fun W' => W'.cell? ⟨wr.heap.size, 0, none⟩ = some (.int .i64 x1) ∧ W'.cell? ⟨wr.heap.size, 1, none⟩ = some (.string x2) ∧ W'.cell? ⟨wr.heap.size, 2, none⟩ = some (.string x3)) (first | exact HS.out _ HBc.out | exact HS.out _ (below_drewN HBc.out _)) (first
          | (go_at_call 41; go_must (refine (HSG.out _).mono ?_; rintro e wq ⟨rfl, rfl⟩))
          | (go_at_call 42; go_must (refine (HQ.out _).mono ?_; rintro e wq ⟨rfl, hbq⟩; (try (have hq1 := undrewM hbq; clear hbq; have hbq := hq1; clear hq1)); have hq1 := HBc.out.trans (hbq.mono HBc.out.size); have HBc := Lib.hid hq1; clear hq1 hbq))
          | fail)
        all_goals
          go_wp2_with fail
          go_roundw
          case rel => exact ⟨k + 1, y3, by go_num, by omega, rfl, by omega, (by first | exact HWW.out.trans (HBc.out.mono HWW.out.size) | exact below_drewN (HWW.out.trans (HBc.out.mono HWW.out.size)) _), (show Aside _ from HE2.out)⟩
          case measure => simp [intOf]; omega
    · obtain rfl : k = l.length := by omega
      have r0 := fun u => run_add u acc ⟨#[125]⟩ (by show acc.size + 1 ≤ _; omega)
      have hfin : acc ++ (⟨#[125]⟩ : ByteArray) = mkB R := bl_inj (by rw [bl_app, bl_mk, E.out, List.drop_length]; rfl)
      rw [hfin] at r0
      have HBW := Lib.hid BW.out
      clear E BW hfin
      go_wp2
      go_ret
      exact ⟨rfl, HBW.out⟩
theorem rprint_any (A : Option Addr) (c : Nat) (l : List Mt') (w : World) (hx : Rd w A (mcells l)) (hc : l.length ≤ c) (hf : FewM l) : Calls Tryz.prog 9 #[.slice A l.length c] w fun e w' =>
    e = .returned (.string (mkB (printM l))) ∧ RowKit.Below w.heap.size w w' := by
  obtain ⟨R, hR⟩ : ∃ R, R = printM l := ⟨_, rfl⟩
  rw [← hR]
  have hfl := hf.1
  have HBR := Lib.hid (rbraces_any A c l w hx hf)
  have HX := Lib.hid hx
  cases l with
  | nil =>
    have hr : mkB (bracesM []) = mkB R := by rw [hR]; rfl
    rw [hr] at HBR
    clear hR hx hf hr
    go_enter Tryz.func9, Tryz.ntmps9
    go_wp2_with fail
    refine HBR.out.mono ?_
    rintro e w1 ⟨rfl, hb⟩
    have HB := Lib.hid hb; clear hb
    go_wp2
    go_ret
    exact ⟨rfl, HB.out⟩
  | cons m r =>
    have hfm := hf.2 m (by simp)
    have hfr : FewM r := ⟨by simp at hfl; omega, fun x hx => hf.2 x (List.mem_cons_of_mem _ hx)⟩
    obtain ⟨b, off, rfl, c0, c1, c2⟩ := mt_at hx (k := 0) (by simp)
    rw [Nat.zero_mul, Nat.add_zero] at c0 c1 c2
    simp only [List.getElem_cons_zero] at c0 c1 c2
    have g0 : (0 : Int) < ((m :: r).length : Int) := by simp
    have g1 : ¬ ((m :: r).length : Int) = 0 := by omega
    obtain ⟨k, n, v⟩ := m
    simp only at c0 c1 c2 hfm
    have HN := Lib.hid (rnamed_any v w (by omega))
    by_cases hm : metricM (k, n, v) = true
    · have hmm := hm
      unfold metricM at hmm
      simp only [Bool.and_eq_true, decide_eq_true_eq] at hmm
      obtain ⟨⟨rfl, hn⟩, hv⟩ := hmm
      rw [hv] at HN
      obtain rfl : n = ⟨#[95, 95, 110, 97, 109, 101, 95, 95]⟩ := bl_inj (by rw [hn]; rfl)
      have hrd : Rd w (some ⟨b, off + 3, none⟩) (mcells r) := by simpa using rd_dropM (k := 1) hx
      have HRB := Lib.hid (fun W' (h : RowKit.Below w.heap.size w W') => rbraces_any (some ⟨b, off + 3, none⟩) (c - 1) r W' (hrd.below h) hfr)
      have hcl : r.length + 1 ≤ c := by simpa using hc
      have hl1 : (1 : Int) ≤ (r.length : Int) + 1 := by omega
      obtain ⟨N, hN⟩ : ∃ N, N = (((1 : Int), (⟨#[95, 95, 110, 97, 109, 101, 95, 95]⟩ : ByteArray), v) :: r).length := ⟨_, rfl⟩
      have hNr : N = r.length + 1 := by rw [hN]; simp
      rw [← hN] at g0 g1 ⊢
      by_cases hz : r = []
      · subst hz
        have hRv : mkB R = v := by rw [hR]; show mkB (if metricM _ then _ else _) = v; rw [if_pos hm]; exact mk_bl v
        rw [hRv]
        have hN1 : (N : Int) = 1 := by rw [hNr]; simp
        clear hR hx hf hfr hm hn hv hrd HRB hRv
        go_enter Tryz.func9, Tryz.ntmps9
        go_wp2_with fail
        refine HN.out.mono ?_
        rintro e w1 ⟨rfl, rfl⟩
        go_wp2
        go_ret
        exact ⟨rfl, RowKit.Below.refl _ _⟩
      · have hN1 : ¬ (N : Int) = 1 := by
          cases r with | nil => exact absurd rfl hz | cons _ _ => rw [hNr]; simp; omega
        have hRv : R = bl v ++ bracesM r := by
          rw [hR]
          cases r with | nil => exact absurd rfl hz | cons a r => show (if metricM _ then _ else _) = _; rw [if_pos hm]
        have hbs : (bracesM r).length ≤ 1000000000 := braces_size hfr
        have radd := fun u => run_add u v (mkB (bracesM r)) (by rw [mkB_size]; omega)
        have hfin : v ++ mkB (bracesM r) = mkB R := bl_inj (by rw [bl_app, bl_mk, bl_mk, hRv])
        rw [hfin] at radd
        generalize mkB (bracesM r) = br at HRB radd
        have HS := Lib.hid (fun (W' : World) (hb : RowKit.Below w.heap.size w W') => show W'.cell? ⟨b, off + 2, none⟩ = some (.string v) from by
          obtain ⟨b9, o9, e9, -, -, d2⟩ := mt_at (HX.out.below hb) (k := 0) (by simp)
          injection e9 with e9; injection e9 with e1 e2 _; subst e1; subst e2
          simpa using d2)
        have HBc := Lib.hid (RowKit.Below.refl w.heap.size w)
        have hidx : (0 : Int) < (N : Int) := g0
        have hc1 : ¬ c = 1 := by
          cases r with | nil => exact absurd rfl hz | cons _ _ => simp at hcl; omega
        clear hR hx hf hfr hm hn hv hrd hRv hfin hbs
        go_enter Tryz.func9, Tryz.ntmps9
        go_wp2_with fail
        refine HN.out.mono ?_
        rintro e w1 ⟨rfl, rfl⟩
        go_wp2_with fail
        go_region_law (first
          | (go_simp; go_at_call 24
             refine (HRB.out _ (by first | exact HBc.out | exact below_drewN HBc.out _)).mono ?_
             rintro e wq ⟨rfl, hbq⟩
             (try (have hq1 := undrewM hbq; clear hbq; have hbq := hq1; clear hq1))
             have hq1 := HBc.out.trans (hbq.mono HBc.out.size)
             have HBc := Lib.hid hq1; clear hq1 hbq
             have k2 := HS.out wq HBc.out)
          | fail)
        all_goals
          go_wp2
          go_ret
          exact ⟨rfl, by first | exact HBc.out | exact below_drewN HBc.out _⟩
    · have hr : mkB (bracesM ((k, n, v) :: r)) = mkB R := by
        rw [hR]
        cases r with
        | nil => show _ = mkB (if metricM _ then _ else _); rw [if_neg hm]
        | cons a r => show _ = mkB (if metricM _ then _ else _); rw [if_neg hm]
      rw [hr] at HBR
      have HM := Lib.hid hm
      obtain ⟨N, hN⟩ : ∃ N, N = ((k, n, v) :: r).length := ⟨_, rfl⟩
      rw [← hN] at HBR g0 g1 ⊢
      clear hR hx hf hr hm hfr hN
      by_cases hk : k = 1
      · subst hk
        by_cases hn : n = ⟨#[95, 95, 110, 97, 109, 101, 95, 95]⟩
        · subst hn
          have hv : namedP (bl v) = false := by
            cases h : namedP (bl v) with
            | false => rfl
            | true => exact absurd (show metricM ((1 : Int), (⟨#[95, 95, 110, 97, 109, 101, 95, 95]⟩ : ByteArray), v) = true by unfold metricM; rw [h, show bl (⟨#[95, 95, 110, 97, 109, 101, 95, 95]⟩ : ByteArray) = nameLabel from rfl]; simp) HM.out
          rw [hv] at HN
          clear hv HM
          go_enter Tryz.func9, Tryz.ntmps9
          go_wp2_with fail
          refine HN.out.mono ?_
          rintro e w1 ⟨rfl, rfl⟩
          go_wp2_with fail
          refine HBR.out.mono ?_
          rintro e w1 ⟨rfl, hb⟩
          have HB := Lib.hid hb; clear hb
          go_wp2
          go_ret
          exact ⟨rfl, HB.out⟩
        · have hq : ¬ n.toList = [95, 95, 110, 97, 109, 101, 95, 95] := fun e => hn (bl_inj (by rw [← toList_bl, e]; rfl))
          clear hn HM
          go_enter Tryz.func9, Tryz.ntmps9
          go_wp2_with fail
          refine HBR.out.mono ?_
          rintro e w1 ⟨rfl, hb⟩
          have HB := Lib.hid hb; clear hb
          go_wp2
          go_ret
          exact ⟨rfl, HB.out⟩
      · clear HM
        go_enter Tryz.func9, Tryz.ntmps9
        go_wp2_with fail
        refine HBR.out.mono ?_
        rintro e w1 ⟨rfl, hb⟩
        have HB := Lib.hid hb; clear hb
        go_wp2
        go_ret
        exact ⟨rfl, HB.out⟩
end
end Go.Proofs.YtinjdlplbficiaaGreatDoor
