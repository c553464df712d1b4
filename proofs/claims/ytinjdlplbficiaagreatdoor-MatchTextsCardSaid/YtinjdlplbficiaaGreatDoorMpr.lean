/-
  match.Print: the text of matchers.
-/
import Derived.Test.YtinjdlplbficiaaGreatDoorQu
import Derived.Test.YtinjdlplbficiaaGreatDoorGt
import Derived.Test.YtinjdlplbficiaaGreatDoorMs
namespace Go.Proofs.YtinjdlplbficiaaGreatDoor
set_option linter.unusedVariables false
set_option linter.unusedSimpArgs false
open Go.RowKit
/-- Not too many matchers, nor too long ones. -/
def FewM (l : List Mt') : Prop := l.length ≤ 6000 ∧ ∀ m ∈ l, m.2.1.size ≤ 6000 ∧ m.2.2.size ≤ 6000
/-- Within a round: the builder in block b, the round's matcher in its box. -/
structure PSM (w0 : World) (b bx : Nat) (m : Mt') (acc : Bs) (w : World) : Prop where
  bld : Bld w0.heap.size b acc w
  below : RowKit.Below w0.heap.size w0 w
  ne : bx ≠ b
  box : w.heap[bx]? = some (.cells #[.int .i64 m.1, .string m.2.1, .string m.2.2] 37 (0, 0))
theorem PSM.cells {w0 : World} {b bx : Nat} {m : Mt'} {acc : Bs} {w : World} (h : PSM w0 b bx m acc w) : w.cell? ⟨bx, 0, none⟩ = some (.int .i64 m.1) ∧ w.cell? ⟨bx, 1, none⟩ = some (.string m.2.1) ∧ w.cell? ⟨bx, 2, none⟩ = some (.string m.2.2) := by
  have h0 := cell_blk h.box 0
  have h1 := cell_blk h.box 1
  have h2 := cell_blk h.box 2
  simp only [List.getElem?_toArray, List.getElem?_cons_zero, List.getElem?_cons_succ] at h0 h1 h2
  exact ⟨h0, h1, h2⟩
theorem PSM.kept {w0 : World} {b bx : Nat} {m : Mt'} {acc acc' : Bs} {w w' : World} (h : PSM w0 b bx m acc w) (hb : Bld w0.heap.size b acc' w') (hw : RowKit.Below w0.heap.size w w') (hk : Lib.OthersKept 5 (some b) w w') : PSM w0 b bx m acc' w' :=
  ⟨hb, h.below.trans hw, h.ne, hk bx _ h.box (fun e => h.ne (Option.some.inj e)) (fun c fz e => by injection e with _ e2 _; exact absurd e2 (by decide))⟩
theorem PSM.later {w0 : World} {b bx : Nat} {m : Mt'} {acc : Bs} {w w' : World} (h : PSM w0 b bx m acc w) (hw : RowKit.Below w.heap.size w w') : PSM w0 b bx m acc w' :=
  ⟨h.bld.moved hw, h.below.trans (hw.mono h.below.size), h.ne, (hw.block bx (blk_lt h.box)).trans h.box⟩
theorem slice_tailM (A : Option Addr) (n c : Nat) (h : 1 ≤ n) (hn : n ≤ c) : ∃ A', (∀ W, (Instr.sliceAt 22 (.slice A n c) (some (.int .i64 1)) none none).run Tryz.prog W = .ok (.slice A' (n - 1) (c - 1)) W) ∧ ∀ (W : World) (l : List Mt'), l.length = n → Rd W A (mcells l) → Rd W A' (mcells (l.drop 1)) :=
  ⟨_, fun W => run_slice_mt W A n c 1 n c _ none none (.inl rfl) (.inr ⟨rfl, rfl, rfl⟩) (.inr ⟨rfl, rfl⟩) h hn (Nat.le_refl _), fun W l hl hr => add_mt hr 1 c (fun e => by omega)⟩
theorem sign_len (k : Int) : (signM k).length ≤ 2 := by
  unfold signM
  split
  · simp
  · split
    · simp
    · split
      · simp
      · split <;> simp
section
set_option maxHeartbeats 3200000
set_option maxRecDepth 100000
theorem psm_ws {w0 : World} {b bx : Nat} {m : Mt'} {acc : Bs} {w : World} (h : PSM w0 b bx m acc w) (s : ByteArray) (hl : acc.length + s.size ≤ 140737488355328) :
    Calls Tryz.prog 18 #[.pointer (some ⟨b, 0, none⟩), .string s] w fun e w' => e = .returned (.tuple #[.int .i64 s.size, .nilIface]) ∧ PSM w0 b bx m (acc ++ bl s) w' :=
  (ws_k _ b s acc w h.bld h.below.size hl).mono fun _ _ k => ⟨k.1, h.kept k.2.1 k.2.2.1 k.2.2.2⟩
theorem mmetric_any (m : Mt') (w : World) : Calls Tryz.prog 17 #[aggMt m] w fun e w' => e = .returned (.bool (metricM m)) ∧ RowKit.Below w.heap.size w w' := by
  obtain ⟨k, n, v⟩ := m
  have hbw : RowKit.Below w.heap.size w (w.alloc (.cells #[.int .i64 k, .string n, .string v] 37)) := (RowKit.Below.refl _ w).alloc (Nat.le_refl _) _
  have HN := Lib.hid (named_any v (w.alloc (.cells #[.int .i64 k, .string n, .string v] 37)))
  have HBW := Lib.hid hbw
  unfold metricM
  simp only
  generalize namedP (bl v) = N at HN ⊢
  clear hbw
  unfold aggMt
  by_cases h1 : k = 1
  · subst h1
    by_cases h2 : n = ⟨#[95, 95, 110, 97, 109, 101, 95, 95]⟩
    · subst h2
      rw [decide_eq_true rfl, decide_eq_true (show bl ⟨#[95, 95, 110, 97, 109, 101, 95, 95]⟩ = nameLabel from rfl), Bool.true_and, Bool.true_and]
      go_enter Tryz.func17, Tryz.ntmps17
      go_wp2_with fail
      refine HN.out.mono ?_
      rintro e w1 ⟨rfl, hb⟩
      have HB := Lib.hid (HBW.out.trans (hb.mono HBW.out.size)); clear hb
      go_wp2
      go_ret
      exact ⟨rfl, HB.out⟩
    · rw [decide_eq_false (show ¬ bl n = nameLabel from fun e => h2 (bl_inj (by rw [e]; rfl))), Bool.and_false, Bool.false_and]
      have hq : ¬ n.toList = [95, 95, 110, 97, 109, 101, 95, 95] := fun e => h2 (bl_inj (by rw [← toList_bl, e]; rfl))
      clear h2
      go_enter Tryz.func17, Tryz.ntmps17
      go_wp2
      go_ret
      exact ⟨rfl, HBW.out⟩
  · rw [decide_eq_false h1, Bool.false_and, Bool.false_and]
    go_enter Tryz.func17, Tryz.ntmps17
    go_wp2
    go_ret
    exact ⟨rfl, HBW.out⟩
theorem mprint_any (A : Option Addr) (c : Nat) (l : List Mt') (w : World) (hx : Rd w A (mcells l)) (hc : l.length ≤ c) (hf : FewM l) : Calls Tryz.prog 8 #[.slice A l.length c] w fun e w' =>
    e = .returned (.string (mkB (printM l))) ∧ RowKit.Below w.heap.size w w' := by
  obtain ⟨R, hR⟩ : ∃ R, R = printM l := ⟨_, rfl⟩
  rw [← hR]
  have hfl := hf.1
  have HX := Lib.hid hx; have HF := Lib.hid hf.2
  have HBN := Lib.hid (bld_new w)
  have HBW0 := Lib.hid (show RowKit.Below w.heap.size w (w.alloc (.cells #[.pointer none, .slice none 0 0] 47)) from (RowKit.Below.refl _ w).alloc (Nat.le_refl _) _)
  clear hx
  by_cases hl0 : l = []
  · subst hl0
    obtain ⟨L, hLd⟩ : ∃ L : List Mt', L = [] := ⟨_, rfl⟩
    obtain ⟨acc0, hacc⟩ : ∃ acc0 : Bs, acc0 = [] := ⟨_, rfl⟩
    have HST := Lib.hid (show R = (acc0 ++ [UInt8.ofNat 123]) ++ bracesFrom 0 (L.drop 0) by rw [hR, hacc, hLd]; rfl)
    have HXL := Lib.hid (show Rd w A (mcells L) by rw [hLd]; exact HX.out)
    have HFL := Lib.hid (show ∀ m ∈ L, m.2.1.size ≤ 6000 ∧ m.2.2.size ≤ 6000 by rw [hLd]; exact HF.out)
    have HBL0 := Lib.hid (show Bld w.heap.size w.heap.size acc0 _ by rw [hacc]; exact HBN.out)
    have hal0 : acc0.length ≤ 6000 := by rw [hacc]; simp
    have hLl : L.length ≤ 6000 := by rw [hLd]; simp
    have HB0 := HBW0
    have hlen : ([] : List Mt').length = L.length := by rw [hLd]
    rw [hlen]
    have hz : (L.length : Int) = 0 := by rw [hLd]; rfl
    have hz2 : ¬ (0 : Int) < (L.length : Int) := by omega
    clear hLd hacc hR hlen hz
    go_enter Tryz.func8, Tryz.ntmps8
    have HW := Lib.hid (wb_any w.heap.size w.heap.size 123 acc0 _ HBL0.out HB0.out.size (by omega) (by omega))
    go_wp2_with fail
    refine HW.out.mono ?_
    rintro e w2 ⟨rfl, hbl, hb⟩
    have HB2 := Lib.hid (HB0.out.trans hb); clear hb
    have HBL := Lib.hid hbl; clear hbl
    go_wp2
    go_loopw [29] (fun s29 wr => ∃ (k : Nat) (acc : Bs), s29 = .int .i64 k ∧ k ≤ L.length ∧ acc.length ≤ k * 20000 + 7000 ∧ Aside (Bld w.heap.size w.heap.size acc wr) ∧ Aside (RowKit.Below w.heap.size w wr) ∧ Aside (R = acc ++ bracesFrom k (L.drop k))) (fun s29 _ => L.length - (intOf s29).toNat)
    case atStart => exact ⟨0, acc0 ++ [UInt8.ofNat 123], rfl, by omega, by rw [List.length_append, List.length_singleton]; omega, HBL.out, HB2.out, HST.out⟩
    case round =>
      obtain ⟨k, acc, rfl, hk, hal, BL, BW, E⟩ := hrel
      have k0 : (0 : Int) ≤ (k : Int) := by omega
      by_cases hlt : k < L.length
      · exact absurd hlt (by omega)
      · obtain rfl : k = L.length := by omega
        have hR3 : R = acc ++ [UInt8.ofNat 125] := by rw [E.out, List.drop_length]; rfl
        have HR3 := Lib.hid hR3
        have HWE := Lib.hid (wb_any w.heap.size w.heap.size 125 acc wr BL.out BW.out.size (by omega) (by omega))
        have HBW := Lib.hid BW.out
        clear E BL BW hR3
        go_wp2_with fail
        refine HWE.out.mono ?_
        rintro e w3 ⟨rfl, hbl, hb⟩
        have HSTR := Lib.hid (str_any w.heap.size w.heap.size (acc ++ [UInt8.ofNat 125]) w3 hbl (HBW.out.trans hb).size)
        rw [← HR3.out] at HSTR
        have HB3 := Lib.hid (HBW.out.trans hb); clear hb hbl
        go_wp2_with fail
        refine HSTR.out.mono ?_
        rintro e w4 ⟨rfl, hb⟩
        have HB4 := Lib.hid (HB3.out.trans hb); clear hb
        go_wp2
        go_ret
        exact ⟨rfl, HB4.out⟩
  · obtain ⟨m, r, rfl⟩ : ∃ m r, l = m :: r := by cases l with | nil => exact absurd rfl hl0 | cons m r => exact ⟨m, r, rfl⟩
    have g0 : (0 : Int) < ((m :: r).length : Int) := by simp
    obtain ⟨b0, off0, rfl, c0, c1, c2⟩ := mt_at (HX.out.below HBW0.out) (k := 0) (by simp)
    rw [Nat.zero_mul, Nat.add_zero] at c0 c1 c2
    simp only [List.getElem_cons_zero] at c0 c1 c2
    have HMM := Lib.hid (fun W => mmetric_any m W)
    have hfm := HF.out m (by simp)
    obtain ⟨m1, m2, m3⟩ := m
    simp only at c0 c1 c2 hfm
    cases hmm : metricM (m1, m2, m3) with
    | false =>
      rw [hmm] at HMM
      obtain ⟨L, hLd⟩ : ∃ L : List Mt', L = (m1, m2, m3) :: r := ⟨_, rfl⟩
      have hRR : printM ((m1, m2, m3) :: r) = bracesM ((m1, m2, m3) :: r) := by
        cases r with
        | nil => show (if metricM (m1, m2, m3) then _ else _) = _; rw [hmm]; rfl
        | cons a r => show (if metricM (m1, m2, m3) then _ else _) = _; rw [hmm]; rfl
      obtain ⟨acc0, hacc⟩ : ∃ acc0 : Bs, acc0 = [] := ⟨_, rfl⟩
      have HST0 := Lib.hid (show R = (acc0 ++ [UInt8.ofNat 123]) ++ bracesFrom 0 (L.drop 0) by rw [hR, hRR, hacc, hLd]; rfl)
      rw [← hLd] at g0 hc hfl
      have HXL := Lib.hid (show Rd w (some ⟨b0, off0, none⟩) (mcells L) by rw [hLd]; exact HX.out)
      have HFL := Lib.hid (show ∀ m ∈ L, m.2.1.size ≤ 6000 ∧ m.2.2.size ≤ 6000 by rw [hLd]; exact HF.out)
      rw [← hLd]
      have hal0 : acc0.length ≤ 6000 := by rw [hacc]; simp
      have HACC := Lib.hid hacc
      unfold aggMt at HMM
      simp only at HMM
      clear hLd hR hRR hmm hf hl0 HX HF
      go_enter Tryz.func8, Tryz.ntmps8
      go_wp2_with fail
      refine (HMM.out _).mono ?_
      rintro e w1 ⟨rfl, hb1⟩
      have HB0 := Lib.hid (HBW0.out.trans (hb1.mono HBW0.out.size))
      have HBL0 := Lib.hid (show Bld w.heap.size w.heap.size acc0 w1 by rw [HACC.out]; exact HBN.out.moved hb1)
      have HST := HST0
      clear hb1 c0 c1 c2
      have HW := Lib.hid (wb_any w.heap.size w.heap.size 123 acc0 _ HBL0.out HB0.out.size (by omega) (by omega))
      go_wp2_with fail
      refine HW.out.mono ?_
      rintro e w2 ⟨rfl, hbl, hb⟩
      have HB2 := Lib.hid (HB0.out.trans hb); clear hb
      have HBL := Lib.hid hbl; clear hbl
      go_wp2
      go_loopw [29] (fun s29 wr => ∃ (k : Nat) (acc : Bs), s29 = .int .i64 k ∧ k ≤ L.length ∧ acc.length ≤ k * 20000 + 7000 ∧ Aside (Bld w.heap.size w.heap.size acc wr) ∧ Aside (RowKit.Below w.heap.size w wr) ∧ Aside (R = acc ++ bracesFrom k (L.drop k))) (fun s29 _ => L.length - (intOf s29).toNat)
      case atStart => exact ⟨0, acc0 ++ [UInt8.ofNat 123], rfl, by omega, by rw [List.length_append, List.length_singleton]; omega, HBL.out, HB2.out, HST.out⟩
      case round =>
        obtain ⟨k, acc, rfl, hk, hal, BL, BW, E⟩ := hrel
        have k0 : (0 : Int) ≤ (k : Int) := by omega
        by_cases hlt : k < L.length
        · have k1 : (k : Int) < (L.length : Int) := by omega
          obtain ⟨b, off, e9, c0, c1, c2⟩ := mt_at (HXL.out.below BW.out) hlt
          injection e9 with e9; injection e9 with e1 e2 _; subst e1; subst e2
          have hfx := HFL.out L[k] (List.getElem_mem hlt)
          have hE : R = acc ++ ((if k = 0 then [] else [44, 32]) ++ (oneT L[k] ++ bracesFrom (k + 1) (L.drop (k + 1)))) := by
            rw [E.out, List.drop_eq_getElem_cons hlt, bracesFrom]
          have HE := Lib.hid hE; clear hE E
          generalize L[k] = x at c0 c1 c2 hfx HE
          obtain ⟨x1, x2, x3⟩ := x
          simp only at hfx c0 c1 c2
          obtain ⟨f1, f2⟩ := hfx
          have hps : PSM w w.heap.size wr.heap.size (x1, x2, x3) acc (wr.alloc (.cells #[.int .i64 x1, .string x2, .string x3] 37)) :=
            ⟨BL.out.moved ((RowKit.Below.refl _ wr).alloc (Nat.le_refl _) _), BW.out.alloc BW.out.size _, by have := BL.out.parts.2; omega, heap_alloc_new wr _⟩
          have hq := fun W => quote_any x3 W (by omega)
          have hqs : (mkB (quoteP (bl x3))).size ≤ 2 * x3.size + 2 := by rw [mkB_size]; have := quoteP_le (bl x3); rw [bl_len] at this; exact this
          obtain ⟨q, hqq⟩ : ∃ q, q = mkB (quoteP (bl x3)) := ⟨_, rfl⟩
          rw [← hqq] at hqs
          have hqb : bl q = quoteP (bl x3) := by rw [hqq, bl_mk]
          simp only [← hqq] at hq
          have hsg := fun W => signK_any x1 W
          have hss : (mkB (signM x1)).size ≤ 2 := by rw [mkB_size]; exact sign_len x1
          obtain ⟨sg, hsgq⟩ : ∃ sg, sg = mkB (signM x1) := ⟨_, rfl⟩
          rw [← hsgq] at hss
          have hsb : bl sg = signM x1 := by rw [hsgq, bl_mk]
          simp only [← hsgq] at hsg
          have HQ := Lib.hid hq; have HQB := Lib.hid hqb; have HPS := Lib.hid hps; have HSG := Lib.hid hsg; have HSB := Lib.hid hsb
          clear hq hqq hqb hps hsg hsgq hsb
          have B44 : (bl ⟨#[44, 32]⟩).length = 2 := rfl
          have BL1 := Lib.hid (bl_len x2); have BL2 := Lib.hid (bl_len q); have BL3 := Lib.hid (bl_len sg)
          by_cases h0 : k = 0
          · subst h0
            rw [Nat.zero_mul, Nat.add_zero] at c0 c1 c2
            have HE2 := Lib.hid (show R = (acc ++ bl x2 ++ bl sg ++ bl q) ++ bracesFrom 1 (L.drop 1) by rw [HE.out, HQB.out, HSB.out]; simp [oneT]); clear HE
            have HC := Lib.hid (psm_ws HPS.out x2 (by omega))
            go_wp2_with fail
            refine HC.out.mono ?_
            rintro e w3 ⟨rfl, hp⟩
            obtain ⟨p0, p1, p2⟩ := hp.cells
            simp only at p0 p1 p2
            have HP3 := Lib.hid hp; clear hp
            go_wp2_with fail
            refine (HSG.out w3).mono ?_
            rintro e w4 ⟨rfl, rfl⟩
            have HC4 := Lib.hid (psm_ws HP3.out sg (by rw [List.length_append, BL1.out]; omega))
            go_wp2_with fail
            refine HC4.out.mono ?_
            rintro e w5 ⟨rfl, hp⟩
            clear p0 p1 p2
            obtain ⟨p0, p1, p2⟩ := hp.cells
            simp only at p0 p1 p2
            have HP5 := Lib.hid hp; clear hp
            go_wp2_with fail
            refine (HQ.out w5).mono ?_
            rintro e w6 ⟨rfl, hb⟩
            have HC6 := Lib.hid (psm_ws (HP5.out.later hb) q (by rw [List.length_append, List.length_append, BL1.out, BL3.out]; omega))
            clear hb p0 p1 p2
            go_wp2_with fail
            refine HC6.out.mono ?_
            rintro e w7 ⟨rfl, hp⟩
            have HP7 := Lib.hid hp; clear hp
            go_wp2
            go_roundw
            case rel => exact ⟨1, _, by go_num, by omega, by rw [List.length_append, List.length_append, List.length_append, BL1.out, BL2.out, BL3.out]; omega, (show Aside _ from HP7.out.bld), (show Aside _ from HP7.out.below), (show Aside _ from HE2.out)⟩
            case measure => simp [intOf]; omega
          · have g0 : (0 : Int) < (k : Int) := by omega
            have HE2 := Lib.hid (show R = (acc ++ bl ⟨#[44, 32]⟩ ++ bl x2 ++ bl sg ++ bl q) ++ bracesFrom (k + 1) (L.drop (k + 1)) by rw [HE.out, HQB.out, HSB.out, if_neg h0, show bl ⟨#[44, 32]⟩ = [44, 32] from rfl]; simp [oneT]); clear HE
            have HC0 := Lib.hid (psm_ws HPS.out ⟨#[44, 32]⟩ (by show acc.length + 2 ≤ _; omega))
            go_wp2_with fail
            refine HC0.out.mono ?_
            rintro e w20 ⟨rfl, hp⟩
            obtain ⟨p0, p1, p2⟩ := hp.cells
            simp only at p0 p1 p2
            have HC := Lib.hid (psm_ws hp x2 (by rw [List.length_append, B44]; omega))
            clear hp
            go_wp2_with fail
            refine HC.out.mono ?_
            rintro e w3 ⟨rfl, hp⟩
            clear p0 p1 p2
            obtain ⟨p0, p1, p2⟩ := hp.cells
            simp only at p0 p1 p2
            have HP3 := Lib.hid hp; clear hp
            go_wp2_with fail
            refine (HSG.out w3).mono ?_
            rintro e w4 ⟨rfl, rfl⟩
            have HC4 := Lib.hid (psm_ws HP3.out sg (by rw [List.length_append, List.length_append, B44, BL1.out]; omega))
            go_wp2_with fail
            refine HC4.out.mono ?_
            rintro e w5 ⟨rfl, hp⟩
            clear p0 p1 p2
            obtain ⟨p0, p1, p2⟩ := hp.cells
            simp only at p0 p1 p2
            have HP5 := Lib.hid hp; clear hp
            go_wp2_with fail
            refine (HQ.out w5).mono ?_
            rintro e w6 ⟨rfl, hb⟩
            have HC6 := Lib.hid (psm_ws (HP5.out.later hb) q (by rw [List.length_append, List.length_append, List.length_append, B44, BL1.out, BL3.out]; omega))
            clear hb p0 p1 p2
            go_wp2_with fail
            refine HC6.out.mono ?_
            rintro e w7 ⟨rfl, hp⟩
            have HP7 := Lib.hid hp; clear hp
            go_wp2
            go_roundw
            case rel => exact ⟨k + 1, _, by go_num, by omega, by rw [List.length_append, List.length_append, List.length_append, List.length_append, B44, BL1.out, BL2.out, BL3.out]; omega, (show Aside _ from HP7.out.bld), (show Aside _ from HP7.out.below), (show Aside _ from HE2.out)⟩
            case measure => simp [intOf]; omega
        · obtain rfl : k = L.length := by omega
          have hR3 : R = acc ++ [UInt8.ofNat 125] := by rw [E.out, List.drop_length]; rfl
          have HR3 := Lib.hid hR3
          have HWE := Lib.hid (wb_any w.heap.size w.heap.size 125 acc wr BL.out BW.out.size (by omega) (by omega))
          have HBW := Lib.hid BW.out
          clear E BL BW hR3
          go_wp2_with fail
          refine HWE.out.mono ?_
          rintro e w3 ⟨rfl, hbl, hb⟩
          have HSTR := Lib.hid (str_any w.heap.size w.heap.size (acc ++ [UInt8.ofNat 125]) w3 hbl (HBW.out.trans hb).size)
          rw [← HR3.out] at HSTR
          have HB3 := Lib.hid (HBW.out.trans hb); clear hb hbl
          go_wp2_with fail
          refine HSTR.out.mono ?_
          rintro e w4 ⟨rfl, hb⟩
          have HB4 := Lib.hid (HB3.out.trans hb); clear hb
          go_wp2
          go_ret
          exact ⟨rfl, HB4.out⟩
    | true =>
      rw [hmm] at HMM
      obtain ⟨A1, hs1, hv1⟩ := slice_tailM (some ⟨b0, off0, none⟩) ((m1, m2, m3) :: r).length c (by simp) hc
      obtain ⟨L, hLd⟩ : ∃ L : List Mt', L = r := ⟨_, rfl⟩
      obtain ⟨n, hn⟩ : ∃ n, n = ((m1, m2, m3) :: r).length := ⟨_, rfl⟩
      have hnl : n - 1 = L.length := by rw [hn, hLd]; simp
      have hnc : n ≤ c := by rw [hn]; exact hc
      have hn1 : n ≤ 6000 := by rw [hn]; exact hfl
      have HXL := Lib.hid (show Rd w A1 (mcells L) by rw [hLd]; exact hv1 w _ rfl HX.out)
      have HFL := Lib.hid (show ∀ m ∈ L, m.2.1.size ≤ 6000 ∧ m.2.2.size ≤ 6000 by rw [hLd]; exact fun x hx => HF.out x (List.mem_cons_of_mem _ hx))
      have HRR := Lib.hid (show R = if L = [] then bl m3 else bl m3 ++ bracesM L by
        rw [hR, hLd]
        cases r with
        | nil => show (if metricM (m1, m2, m3) then _ else _) = _; rw [hmm]; rfl
        | cons a r => show (if metricM (m1, m2, m3) then _ else _) = _; rw [hmm]; rfl)
      rw [← hn] at g0 hs1 ⊢
      rw [hnl] at hs1
      unfold aggMt at HMM
      simp only at HMM
      have bl3 := bl_len m3
      obtain ⟨acc0, hacc⟩ : ∃ acc0 : Bs, acc0 = bl m3 := ⟨_, rfl⟩
      have hal0 : acc0.length ≤ 6000 := by rw [hacc, bl3]; exact hfm.2
      have HACC := Lib.hid hacc
      have C2 := Lib.hid (fun (W : World) (hb : RowKit.Below w.heap.size w W) => show W.cell? ⟨b0, off0 + 2, none⟩ = some (.string m3) from by
        obtain ⟨b9, o9, e9, -, -, d2⟩ := mt_at (HX.out.below hb) (k := 0) (by simp)
        injection e9 with e9; injection e9 with e1 e2 _; subst e1; subst e2
        simpa using d2)
      clear hLd hR hmm hf hl0 HX HF hv1 hc hfl hacc hn
      go_enter Tryz.func8, Tryz.ntmps8
      go_wp2_with fail
      refine (HMM.out _).mono ?_
      rintro e w1 ⟨rfl, hb1⟩
      have HB1 := Lib.hid (HBW0.out.trans (hb1.mono HBW0.out.size))
      clear c0 c1 c2
      have c2 : w1.cell? ⟨b0, off0 + 2, none⟩ = some (.string m3) := C2.out w1 HB1.out
      have HWS := Lib.hid (ws_any w.heap.size w.heap.size m3 [] w1 (HBN.out.moved hb1) HB1.out.size (by simp; omega))
      clear hb1
      go_wp2_with fail
      refine HWS.out.mono ?_
      rintro e w2 ⟨rfl, hbl, hb⟩
      have HB0 := Lib.hid (HB1.out.trans hb)
      have HBL0 := Lib.hid (show Bld w.heap.size w.heap.size acc0 w2 by rw [HACC.out]; exact hbl)
      clear hb hbl
      by_cases hz : L = []
      · have hR2 : R = acc0 := by rw [HRR.out, if_pos hz, HACC.out]
        have hzl : (L.length : Int) = 0 := by rw [hz]; rfl
        have HSTR := Lib.hid (str_any w.heap.size w.heap.size acc0 w2 HBL0.out HB0.out.size)
        rw [← hR2] at HSTR
        clear hR2 hz
        go_wp2_with fail
        refine HSTR.out.mono ?_
        rintro e w4 ⟨rfl, hb⟩
        have HB4 := Lib.hid (HB0.out.trans hb); clear hb
        go_wp2
        go_ret
        exact ⟨rfl, HB4.out⟩
      · have hzl : ¬ (L.length : Int) = 0 := by
          cases L with | nil => exact absurd rfl hz | cons _ _ => simp; omega
        have HST := Lib.hid (show R = (acc0 ++ [UInt8.ofNat 123]) ++ bracesFrom 0 (L.drop 0) by rw [HRR.out, if_neg hz, HACC.out]; simp [bracesM])
        clear hz
        have HW := Lib.hid (wb_any w.heap.size w.heap.size 123 acc0 _ HBL0.out HB0.out.size (by omega) (by omega))
        go_wp2_with fail
        refine HW.out.mono ?_
        rintro e w2 ⟨rfl, hbl, hb⟩
        have HB2 := Lib.hid (HB0.out.trans hb); clear hb
        have HBL := Lib.hid hbl; clear hbl
        go_wp2
        go_loopw [29] (fun s29 wr => ∃ (k : Nat) (acc : Bs), s29 = .int .i64 k ∧ k ≤ L.length ∧ acc.length ≤ k * 20000 + 7000 ∧ Aside (Bld w.heap.size w.heap.size acc wr) ∧ Aside (RowKit.Below w.heap.size w wr) ∧ Aside (R = acc ++ bracesFrom k (L.drop k))) (fun s29 _ => L.length - (intOf s29).toNat)
        case atStart => exact ⟨0, acc0 ++ [UInt8.ofNat 123], rfl, by omega, by rw [List.length_append, List.length_singleton]; omega, HBL.out, HB2.out, HST.out⟩
        case round =>
          obtain ⟨k, acc, rfl, hk, hal, BL, BW, E⟩ := hrel
          have k0 : (0 : Int) ≤ (k : Int) := by omega
          by_cases hlt : k < L.length
          · have k1 : (k : Int) < (L.length : Int) := by omega
            obtain ⟨b, off, rfl, c0, c1, c2⟩ := mt_at (HXL.out.below BW.out) hlt
            have hfx := HFL.out L[k] (List.getElem_mem hlt)
            have hE : R = acc ++ ((if k = 0 then [] else [44, 32]) ++ (oneT L[k] ++ bracesFrom (k + 1) (L.drop (k + 1)))) := by
              rw [E.out, List.drop_eq_getElem_cons hlt, bracesFrom]
            have HE := Lib.hid hE; clear hE E
            generalize L[k] = x at c0 c1 c2 hfx HE
            obtain ⟨x1, x2, x3⟩ := x
            simp only at hfx c0 c1 c2
            obtain ⟨f1, f2⟩ := hfx
            have hps : PSM w w.heap.size wr.heap.size (x1, x2, x3) acc (wr.alloc (.cells #[.int .i64 x1, .string x2, .string x3] 37)) :=
              ⟨BL.out.moved ((RowKit.Below.refl _ wr).alloc (Nat.le_refl _) _), BW.out.alloc BW.out.size _, by have := BL.out.parts.2; omega, heap_alloc_new wr _⟩
            have hq := fun W => quote_any x3 W (by omega)
            have hqs : (mkB (quoteP (bl x3))).size ≤ 2 * x3.size + 2 := by rw [mkB_size]; have := quoteP_le (bl x3); rw [bl_len] at this; exact this
            obtain ⟨q, hqq⟩ : ∃ q, q = mkB (quoteP (bl x3)) := ⟨_, rfl⟩
            rw [← hqq] at hqs
            have hqb : bl q = quoteP (bl x3) := by rw [hqq, bl_mk]
            simp only [← hqq] at hq
            have hsg := fun W => signK_any x1 W
            have hss : (mkB (signM x1)).size ≤ 2 := by rw [mkB_size]; exact sign_len x1
            obtain ⟨sg, hsgq⟩ : ∃ sg, sg = mkB (signM x1) := ⟨_, rfl⟩
            rw [← hsgq] at hss
            have hsb : bl sg = signM x1 := by rw [hsgq, bl_mk]
            simp only [← hsgq] at hsg
            have HQ := Lib.hid hq; have HQB := Lib.hid hqb; have HPS := Lib.hid hps; have HSG := Lib.hid hsg; have HSB := Lib.hid hsb
            clear hq hqq hqb hps hsg hsgq hsb
            have B44 : (bl ⟨#[44, 32]⟩).length = 2 := rfl
            have BL1 := Lib.hid (bl_len x2); have BL2 := Lib.hid (bl_len q); have BL3 := Lib.hid (bl_len sg)
            by_cases h0 : k = 0
            · subst h0
              rw [Nat.zero_mul, Nat.add_zero] at c0 c1 c2
              have HE2 := Lib.hid (show R = (acc ++ bl x2 ++ bl sg ++ bl q) ++ bracesFrom 1 (L.drop 1) by rw [HE.out, HQB.out, HSB.out]; simp [oneT]); clear HE
              have HC := Lib.hid (psm_ws HPS.out x2 (by omega))
              go_wp2_with fail
              refine HC.out.mono ?_
              rintro e w3 ⟨rfl, hp⟩
              obtain ⟨p0, p1, p2⟩ := hp.cells
              simp only at p0 p1 p2
              have HP3 := Lib.hid hp; clear hp
              go_wp2_with fail
              refine (HSG.out w3).mono ?_
              rintro e w4 ⟨rfl, rfl⟩
              have HC4 := Lib.hid (psm_ws HP3.out sg (by rw [List.length_append, BL1.out]; omega))
              go_wp2_with fail
              refine HC4.out.mono ?_
              rintro e w5 ⟨rfl, hp⟩
              clear p0 p1 p2
              obtain ⟨p0, p1, p2⟩ := hp.cells
              simp only at p0 p1 p2
              have HP5 := Lib.hid hp; clear hp
              go_wp2_with fail
              refine (HQ.out w5).mono ?_
              rintro e w6 ⟨rfl, hb⟩
              have HC6 := Lib.hid (psm_ws (HP5.out.later hb) q (by rw [List.length_append, List.length_append, BL1.out, BL3.out]; omega))
              clear hb p0 p1 p2
              go_wp2_with fail
              refine HC6.out.mono ?_
              rintro e w7 ⟨rfl, hp⟩
              have HP7 := Lib.hid hp; clear hp
              go_wp2
              go_roundw
              case rel => exact ⟨1, _, by go_num, by omega, by rw [List.length_append, List.length_append, List.length_append, BL1.out, BL2.out, BL3.out]; omega, (show Aside _ from HP7.out.bld), (show Aside _ from HP7.out.below), (show Aside _ from HE2.out)⟩
              case measure => simp [intOf]; omega
            · have g0 : (0 : Int) < (k : Int) := by omega
              have HE2 := Lib.hid (show R = (acc ++ bl ⟨#[44, 32]⟩ ++ bl x2 ++ bl sg ++ bl q) ++ bracesFrom (k + 1) (L.drop (k + 1)) by rw [HE.out, HQB.out, HSB.out, if_neg h0, show bl ⟨#[44, 32]⟩ = [44, 32] from rfl]; simp [oneT]); clear HE
              have HC0 := Lib.hid (psm_ws HPS.out ⟨#[44, 32]⟩ (by show acc.length + 2 ≤ _; omega))
              go_wp2_with fail
              refine HC0.out.mono ?_
              rintro e w20 ⟨rfl, hp⟩
              obtain ⟨p0, p1, p2⟩ := hp.cells
              simp only at p0 p1 p2
              have HC := Lib.hid (psm_ws hp x2 (by rw [List.length_append, B44]; omega))
              clear hp
              go_wp2_with fail
              refine HC.out.mono ?_
              rintro e w3 ⟨rfl, hp⟩
              clear p0 p1 p2
              obtain ⟨p0, p1, p2⟩ := hp.cells
              simp only at p0 p1 p2
              have HP3 := Lib.hid hp; clear hp
              go_wp2_with fail
              refine (HSG.out w3).mono ?_
              rintro e w4 ⟨rfl, rfl⟩
              have HC4 := Lib.hid (psm_ws HP3.out sg (by rw [List.length_append, List.length_append, B44, BL1.out]; omega))
              go_wp2_with fail
              refine HC4.out.mono ?_
              rintro e w5 ⟨rfl, hp⟩
              clear p0 p1 p2
              obtain ⟨p0, p1, p2⟩ := hp.cells
              simp only at p0 p1 p2
              have HP5 := Lib.hid hp; clear hp
              go_wp2_with fail
              refine (HQ.out w5).mono ?_
              rintro e w6 ⟨rfl, hb⟩
              have HC6 := Lib.hid (psm_ws (HP5.out.later hb) q (by rw [List.length_append, List.length_append, List.length_append, B44, BL1.out, BL3.out]; omega))
              clear hb p0 p1 p2
              go_wp2_with fail
              refine HC6.out.mono ?_
              rintro e w7 ⟨rfl, hp⟩
              have HP7 := Lib.hid hp; clear hp
              go_wp2
              go_roundw
              case rel => exact ⟨k + 1, _, by go_num, by omega, by rw [List.length_append, List.length_append, List.length_append, List.length_append, B44, BL1.out, BL2.out, BL3.out]; omega, (show Aside _ from HP7.out.bld), (show Aside _ from HP7.out.below), (show Aside _ from HE2.out)⟩
              case measure => simp [intOf]; omega
          · obtain rfl : k = L.length := by omega
            have hR3 : R = acc ++ [UInt8.ofNat 125] := by rw [E.out, List.drop_length]; rfl
            have HR3 := Lib.hid hR3
            have HWE := Lib.hid (wb_any w.heap.size w.heap.size 125 acc wr BL.out BW.out.size (by omega) (by omega))
            have HBW := Lib.hid BW.out
            clear E BL BW hR3
            go_wp2_with fail
            refine HWE.out.mono ?_
            rintro e w3 ⟨rfl, hbl, hb⟩
            have HSTR := Lib.hid (str_any w.heap.size w.heap.size (acc ++ [UInt8.ofNat 125]) w3 hbl (HBW.out.trans hb).size)
            rw [← HR3.out] at HSTR
            have HB3 := Lib.hid (HBW.out.trans hb); clear hb hbl
            go_wp2_with fail
            refine HSTR.out.mono ?_
            rintro e w4 ⟨rfl, hb⟩
            have HB4 := Lib.hid (HB3.out.trans hb); clear hb
            go_wp2
            go_ret
            exact ⟨rfl, HB4.out⟩
end
end Go.Proofs.YtinjdlplbficiaaGreatDoor
