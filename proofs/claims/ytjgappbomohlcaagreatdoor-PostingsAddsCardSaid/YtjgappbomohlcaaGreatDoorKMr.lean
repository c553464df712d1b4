/-
  One matcher: what is wrong with it, and whether a value passes. Check and One.
-/
import Derived.Test.YtjgappbomohlcaaGreatDoorK01
import Derived.Test.YtjgappbomohlcaaGreatDoorKNa
import Derived.Test.YtjgappbomohlcaaGreatDoorKQz
import Derived.Test.YtjgappbomohlcaaGreatDoorKRt3
namespace Go.Proofs.YtjgappbomohlcaaGreatDoor
section
set_option linter.unusedVariables false
set_option linter.unusedSimpArgs false
section
set_option linter.unusedVariables false
set_option linter.unusedSimpArgs false
open Go.RowKit
/-- What stands behind a matcher that is ready: its pattern, of kinds that have one. -/
def FormOk (w : World) (m : Mt') (f : Value) : Prop :=
  if m.1 < 3 then f = .pointer none else ∃ b t, f = .pointer (some ⟨b, 0, none⟩) ∧ rxP (bl m.2.2) = .ok t ∧ RexIs w b m.2.2 t
theorem FormOk.below {w w' : World} {m : Mt'} {f : Value} (h : FormOk w m f) (hb : RowKit.Below w.heap.size w w') : FormOk w' m f := by
  unfold FormOk at h ⊢
  split
  · rename_i e; rw [if_pos e] at h; exact h
  · rename_i e; rw [if_neg e] at h
    obtain ⟨b, t, h1, h2, h3⟩ := h
    exact ⟨b, t, h1, h2, h3.below hb⟩
theorem own_apart {w : World} {B g : Nat} {e t : TypeId} {size : Nat} {v : Value} {n : Nat} {xs : List Value} {cs : Array Value} {k : Nat} (hte : t ≠ e) (h : w.ownsRow B e size v n xs) (hg : w.heap[g]? = some (.cells cs t (0, 0))) (hk : v.ownBlock = some k) : k ≠ g := by
  rcases h.2 with ⟨rfl, h0⟩ | ⟨g', cap, cur, rfl, hB, hg', hnc, hcm, hcs, htk⟩
  · cases hk
  · rintro rfl
    have : some g' = some k := hk
    injection this with this; subst this
    rw [hg] at hg'
    injection hg' with hg'
    injection hg' with _ ht _
    exact hte ht
/-- A pattern is left by what writes a matcher's box. -/
theorem RexIs.mvd {w w' : World} {b g : Nat} {s : ByteArray} {t : Re} {cs : Array Value} (h : RexIs w b s t) (hg : w.heap[g]? = some (.cells cs 132 (0, 0))) (m : Mv (fun k => k = g) w w') : RexIs w' b s t := by
  obtain ⟨v, us, hb, ha⟩ := h.box
  refine ⟨⟨v, us, ?_, ha.len, ?_, fun i u a hu ha' => ?_⟩, h.few⟩
  · refine (m.block b (blk_lt hb) fun e => ?_).trans hb
    subst e
    rw [hg] at hb; injection hb with hb; injection hb with _ ht _
    revert ht; decide
  · exact own_moved ha.row fun k hk => m.block k (ha.row.lt k hk).2 (own_apart (by decide) ha.row hg hk)
  · exact own_moved (ha.sp i u a hu ha') fun k hk => m.block k ((ha.sp i u a hu ha').lt k hk).2 (own_apart (by decide) (ha.sp i u a hu ha') hg hk)
def aggR (m : Mt') (f : Value) : Value := .agg #[.int .i64 m.1, .string m.2.1, .string m.2.2, f]
def RyOut (w : World) (m : Mt') (c : Nat) (e : Ending) (w' : World) : Prop :=
  if c = 0 then ∃ f, e = .returned (.tuple #[aggR m f, .int .i64 0]) ∧ FormOk w' m f ∧ RowKit.Below w.heap.size w w'
  else e = .returned (.tuple #[aggR (0, noneB, noneB) (.pointer none), .int .i64 (c : Nat)]) ∧ RowKit.Below w.heap.size w w'
theorem infoMr : (Tryz.prog.info? 132).map (fun i => (i.zero, i.size, i.bytes)) = some (some (.agg #[.int .i64 0, .string ⟨#[]⟩, .string ⟨#[]⟩, .pointer none]), 4, 48) := by kernel_rfl
theorem results_mr {fn : Func} {p u : Tmp} (h : fn.results = #[.cell p 132, .tmp u]) (tmps : Array Value) (w : World) (g : Nat) (cs : Array Value)
    (hp : tmps.getD p undef = .pointer (some ⟨g, 0, none⟩)) (hg : w.heap[g]? = some (.cells cs 132 (0, 0))) (hc : cs.size = 4) :
    (results fn tmps).run Tryz.prog w = .ok (.tuple #[.agg cs, tmps.getD u undef]) w := by
  have hp' : tmps[p]?.getD undef = .pointer (some ⟨g, 0, none⟩) := by simpa using hp
  simp [results, h, hp', asAddr, run_loadVar_row w g 132 132 cs (0, 0) _ hg Tryz.underlying132 rfl (by rw [hc]; kernel_rfl)]
theorem post_mr {fn : Func} {R : Ending → World → Prop} {a : Act} {w : World} {p u : Tmp} (h : fn.results = #[.cell p 132, .tmp u]) (g : Nat) (cs : Array Value)
    (hp : a.tmps.getD p undef = .pointer (some ⟨g, 0, none⟩)) (hg : w.heap[g]? = some (.cells cs 132 (0, 0))) (hc : cs.size = 4) (hdf : a.defers = [])
    (hR : R (.returned (.tuple #[.agg cs, a.tmps.getD u undef])) w) : bodyPost Tryz.prog fn R .ret a w :=
  bodyPost_ret (results_mr h a.tmps w g cs hp hg hc) hdf hR
/-- The matcher that came in, in block g, and the one that goes out, behind it. -/
structure RyIs (w w1 : World) (m : Mt') : Prop where
  arg : w1.heap[w.heap.size]? = some (.cells #[.int .i64 m.1, .string m.2.1, .string m.2.2] 66 (0, 0))
  out : w1.heap[w.heap.size + 1]? = some (.cells #[.int .i64 0, .string ⟨#[]⟩, .string ⟨#[]⟩, .pointer none] 132 (0, 0))
  below : RowKit.Below w.heap.size w w1
theorem RyIs.moved {w w1 w2 : World} {m : Mt'} (h : RyIs w w1 m) (hb : RowKit.Below w1.heap.size w1 w2) : RyIs w w2 m :=
  ⟨(hb.block _ (blk_lt h.arg)).trans h.arg, (hb.block _ (blk_lt h.out)).trans h.out, h.below.trans (hb.mono h.below.size)⟩
theorem RyIs.new (w : World) (m : Mt') : RyIs w ((w.alloc (.cells #[.int .i64 m.1, .string m.2.1, .string m.2.2] 66)).alloc (.cells #[.int .i64 0, .string ⟨#[]⟩, .string ⟨#[]⟩, .pointer none] 132)) m :=
  ⟨by rw [Below.heap_alloc _ _ _ (by simp)]; exact heap_alloc_new w _, heap_alloc_new2 w _ _, ((RowKit.Below.refl _ w).alloc (Nat.le_refl _) _).alloc (by simp) _⟩
theorem RyIs.cells {w w1 : World} {m : Mt'} (h : RyIs w w1 m) : w1.cell? ⟨w.heap.size, 0, none⟩ = some (.int .i64 m.1) ∧ w1.cell? ⟨w.heap.size, 1, none⟩ = some (.string m.2.1) ∧ w1.cell? ⟨w.heap.size, 2, none⟩ = some (.string m.2.2) ∧
    w1.cell? ⟨w.heap.size + 1, 0, none⟩ = some (.int .i64 0) ∧ w1.cell? ⟨w.heap.size + 1, 1, none⟩ = some (.string ⟨#[]⟩) ∧ w1.cell? ⟨w.heap.size + 1, 2, none⟩ = some (.string ⟨#[]⟩) ∧ w1.cell? ⟨w.heap.size + 1, 3, none⟩ = some (.pointer none) ∧ ∀ i, w1.frozen? ⟨w.heap.size + 1, i, none⟩ = false := by
  have c0 := cell_blk h.arg 0; have c1 := cell_blk h.arg 1; have c2 := cell_blk h.arg 2
  have d0 := cell_blk h.out 0; have d1 := cell_blk h.out 1; have d2 := cell_blk h.out 2; have d3 := cell_blk h.out 3
  simp only [List.getElem?_toArray, List.getElem?_cons_zero, List.getElem?_cons_succ] at c0 c1 c2 d0 d1 d2 d3
  exact ⟨c0, c1, c2, d0, d1, d2, d3, fun i => free_blk h.out i⟩
theorem RyIs.set {w w1 : World} {m : Mt'} (h : RyIs w w1 m) (x0 x1 x2 x3 : Value) :
    ((((w1.setCell ⟨w.heap.size + 1, 0, none⟩ x0).setCell ⟨w.heap.size + 1, 1, none⟩ x1).setCell ⟨w.heap.size + 1, 2, none⟩ x2).setCell ⟨w.heap.size + 1, 3, none⟩ x3).heap[w.heap.size + 1]? = some (.cells #[x0, x1, x2, x3] 132 (0, 0)) ∧
    RowKit.Below w.heap.size w ((((w1.setCell ⟨w.heap.size + 1, 0, none⟩ x0).setCell ⟨w.heap.size + 1, 1, none⟩ x1).setCell ⟨w.heap.size + 1, 2, none⟩ x2).setCell ⟨w.heap.size + 1, 3, none⟩ x3) ∧
    Mv (fun k => k = w.heap.size + 1) w1 ((((w1.setCell ⟨w.heap.size + 1, 0, none⟩ x0).setCell ⟨w.heap.size + 1, 1, none⟩ x1).setCell ⟨w.heap.size + 1, 2, none⟩ x2).setCell ⟨w.heap.size + 1, 3, none⟩ x3) := by
  have hm : Mv (fun k => k = w.heap.size + 1) w1 ((((w1.setCell ⟨w.heap.size + 1, 0, none⟩ x0).setCell ⟨w.heap.size + 1, 1, none⟩ x1).setCell ⟨w.heap.size + 1, 2, none⟩ x2).setCell ⟨w.heap.size + 1, 3, none⟩ x3) :=
    ((((Mv.refl (fun k => k = w.heap.size + 1) w1).setCell (p := ⟨w.heap.size + 1, 0, none⟩) (fun _ => rfl) _).setCell (p := ⟨w.heap.size + 1, 1, none⟩) (fun _ => rfl) _).setCell (p := ⟨w.heap.size + 1, 2, none⟩) (fun _ => rfl) _).setCell (p := ⟨w.heap.size + 1, 3, none⟩) (fun _ => rfl) _
  exact ⟨set_blk (set_blk (set_blk (set_blk h.out 0 x0) 1 x1) 2 x2) 3 x3, h.below.trans (hm.belowB h.below.size fun k hk e => by omega), hm⟩
section
set_option maxHeartbeats 3200000
set_option maxRecDepth 100000
theorem ready_any (m : Mt') (w : World) (hT : Tabs w) (h : m.2.2.size ≤ 1000000) : Calls Tryz.prog 94 #[aggMt m] w (RyOut w m (checkM m)) := by
  obtain ⟨W, hW⟩ : ∃ W, W = (w.alloc (.cells #[.int .i64 m.1, .string m.2.1, .string m.2.2] 66)).alloc (.cells #[.int .i64 0, .string ⟨#[]⟩, .string ⟨#[]⟩, .pointer none] 132) := ⟨_, rfl⟩
  have hry : RyIs w W m := by rw [hW]; exact RyIs.new w m
  have HN := Lib.hid (named_any m.2.1)
  have HV := Lib.hid (fun W h' => valued_any m.2.2 W h' h)
  have HP := Lib.hid (fun W => parse_any m.2.2 W)
  have hbW := hry.below
  have HT := Lib.hid (hT.below hbW)
  obtain ⟨k, n, v⟩ := m
  simp only at h hW HN HV HP
  have HW := Lib.hid hW; clear hW hT hbW
  obtain ⟨a0, a1, a2, d0, d1, d2, d3, f4⟩ := hry.cells
  simp only at a0 a1 a2
  have HRY := Lib.hid hry; clear hry
  obtain ⟨C, hC⟩ : ∃ C, checkM (k, n, v) = C := ⟨_, rfl⟩
  rw [hC]
  unfold checkM at hC
  simp only at hC
  unfold aggMt
  by_cases hk : k < 1 ∨ 4 < k
  · rw [if_pos hk] at hC
    subst hC
    have hfin : RyOut w (k, n, v) 70 (.returned (.tuple #[aggR (0, noneB, noneB) (.pointer none), .int .i64 70])) W := by
      unfold RyOut; rw [if_neg (by decide)]; exact ⟨rfl, HRY.out.below⟩
    have HFIN := Lib.hid hfin; clear hfin
    by_cases hk1 : k < 1
    · clear hk
      go_enter Tryz.func94, Tryz.ntmps94
      go_wp2
      rw [← HW.out]
      exact post_mr rfl _ _ rfl HRY.out.out rfl rfl HFIN.out
    · have hk2 : 4 < k := by omega
      clear hk
      go_enter Tryz.func94, Tryz.ntmps94
      go_wp2
      rw [← HW.out]
      exact post_mr rfl _ _ rfl HRY.out.out rfl rfl HFIN.out
  · rw [if_neg hk] at hC
    have hk1 : ¬ k < 1 := by omega
    have hk2 : ¬ 4 < k := by omega
    clear hk
    generalize namedP (bl n) = N at HN hC
    generalize valuedP (bl v) = V at HV hC
    have HC := Lib.hid hC; clear hC
    go_enter Tryz.func94, Tryz.ntmps94
    go_wp2_with fail
    rw [← HW.out]
    refine (HN.out _).mono ?_
    rintro e w1 ⟨rfl, hb1⟩
    have hry1 := HRY.out.moved hb1
    have HT1 := Lib.hid (HT.out.below hb1)
    clear hb1 a0 a1 a2 d0 d1 d2 d3 f4
    obtain ⟨a0, a1, a2, d0, d1, d2, d3, f4⟩ := hry1.cells
    simp only at a0 a1 a2
    have HRY1 := Lib.hid hry1; clear hry1
    cases N with
    | false =>
      have hc := HC.out; rw [if_pos rfl] at hc; subst hc
      go_wp2
      obtain ⟨r1, r2, -⟩ := HRY1.out.set (.int .i64 0) (.string ⟨#[]⟩) (.string ⟨#[]⟩) (.pointer none)
      refine post_mr rfl _ _ rfl r1 rfl rfl ?_
      unfold RyOut; rw [if_neg (by decide)]; exact ⟨rfl, r2⟩
    | true =>
      go_wp2_with fail
      refine (HV.out _ HT1.out).mono ?_
      rintro e w2 ⟨rfl, hb2⟩
      have hry2 := HRY1.out.moved hb2
      clear hb2 a0 a1 a2 d0 d1 d2 d3 f4
      obtain ⟨a0, a1, a2, d0, d1, d2, d3, f4⟩ := hry2.cells
      simp only at a0 a1 a2
      have HRY2 := Lib.hid hry2; clear hry2
      cases V with
      | false =>
        have hc := HC.out; rw [if_neg (by simp), if_pos rfl] at hc; subst hc
        go_wp2
        obtain ⟨r1, r2, -⟩ := HRY2.out.set (.int .i64 0) (.string ⟨#[]⟩) (.string ⟨#[]⟩) (.pointer none)
        refine post_mr rfl _ _ rfl r1 rfl rfl ?_
        unfold RyOut; rw [if_neg (by decide)]; exact ⟨rfl, r2⟩
      | true =>
        by_cases hk3 : k < 3
        · have hc := HC.out; rw [if_neg (by simp), if_neg (by simp), if_pos hk3] at hc; subst hc
          go_wp2
          obtain ⟨r1, r2, -⟩ := HRY2.out.set (.int .i64 k) (.string n) (.string v) (.pointer none)
          refine post_mr rfl _ _ rfl r1 rfl rfl ?_
          unfold RyOut; rw [if_pos rfl]; exact ⟨.pointer none, rfl, by unfold FormOk; rw [if_pos hk3], r2⟩
        · have hc := HC.out; rw [if_neg (by simp), if_neg (by simp), if_neg hk3] at hc
          unfold formM at hc
          generalize hR : rxP (bl v) = R at HP hc
          have HC2 := Lib.hid hc; have HR := Lib.hid hR; clear hc hR HC
          go_wp2_with fail
          refine (HP.out _).mono ?_
          intro e w3 ho
          cases R with
          | error f =>
            obtain ⟨rfl, hb3⟩ := ho
            have hf := rxM_err HR.out
            have hc := HC2.out; simp only at hc; subst hc
            have hf2 : ¬ ((f.2 : Nat) : Int) = 0 := by omega
            have hry3 := HRY2.out.moved hb3
            clear hb3 a0 a1 a2 d0 d1 d2 d3 f4
            obtain ⟨a0, a1, a2, d0, d1, d2, d3, f4⟩ := hry3.cells
            simp only at a0 a1 a2
            have HRY3 := Lib.hid hry3; clear hry3
            go_wp2
            obtain ⟨r1, r2, -⟩ := HRY3.out.set (.int .i64 0) (.string ⟨#[]⟩) (.string ⟨#[]⟩) (.pointer none)
            refine post_mr rfl _ _ rfl r1 rfl rfl ?_
            unfold RyOut; rw [if_neg hf]; exact ⟨rfl, r2⟩
          | ok t =>
            obtain ⟨b, rfl, hB3, hx3, hb3⟩ := ho
            have hry3 := HRY2.out.moved hb3
            clear hb3 a0 a1 a2 d0 d1 d2 d3 f4
            obtain ⟨a0, a1, a2, d0, d1, d2, d3, f4⟩ := hry3.cells
            simp only at a0 a1 a2
            have HRY3 := Lib.hid hry3; clear hry3
            have HX3 := Lib.hid hx3; clear hx3
            have hc := HC2.out; simp only at hc; subst hc
            go_wp2
            obtain ⟨r1, r2, r3⟩ := HRY3.out.set (.int .i64 k) (.string n) (.string v) (.pointer (some ⟨b, 0, none⟩))
            refine post_mr rfl _ _ rfl r1 rfl rfl ?_
            unfold RyOut; rw [if_pos rfl]
            refine ⟨.pointer (some ⟨b, 0, none⟩), rfl, ?_, r2⟩
            unfold FormOk; rw [if_neg (by simp only; omega)]
            exact ⟨b, t, rfl, HR.out, HX3.out.mvd HRY3.out.out r3⟩
theorem passes_any (m : Mt') (f : Value) (s : ByteArray) (w : World) (hf : FormOk w m f) : Calls Tryz.prog 95 #[aggR m f, .string s] w fun e w' => e = .returned (.bool (passM m s)) ∧ RowKit.Below w.heap.size w w' := by
  obtain ⟨k, n, v⟩ := m
  obtain ⟨C, hC⟩ : ∃ C, passM (k, n, v) s = C := ⟨_, rfl⟩
  rw [hC]
  unfold passM at hC
  unfold FormOk at hf
  unfold aggR
  simp only at hC hf ⊢
  have hbw : RowKit.Below w.heap.size w (w.alloc (.cells #[.int .i64 k, .string n, .string v, f] 132)) := (RowKit.Below.refl _ w).alloc (Nat.le_refl _) _
  have HBW := Lib.hid hbw; clear hbw
  by_cases h1 : k = 1
  · subst h1
    rw [if_pos rfl] at hC
    clear hf
    by_cases hs : s = v
    · subst hs
      rw [decide_eq_true rfl] at hC; subst hC
      go_enter Tryz.func95, Tryz.ntmps95
      go_wp2; go_ret
      exact ⟨by simp, HBW.out⟩
    · rw [decide_eq_false hs] at hC; subst hC
      have hq := text_ne hs
      clear hs
      go_enter Tryz.func95, Tryz.ntmps95
      go_wp2; go_ret
      exact ⟨rfl, HBW.out⟩
  · rw [if_neg h1] at hC
    by_cases h2 : k = 2
    · subst h2
      rw [if_pos rfl] at hC
      clear hf
      by_cases hs : s = v
      · subst hs
        rw [decide_eq_true rfl] at hC; subst hC
        go_enter Tryz.func95, Tryz.ntmps95
        go_wp2; go_ret
        exact ⟨by simp, HBW.out⟩
      · rw [decide_eq_false hs] at hC; subst hC
        have hq := text_ne hs
        clear hs
        go_enter Tryz.func95, Tryz.ntmps95
        go_wp2; go_ret
        exact ⟨by simp, HBW.out⟩
    · rw [if_neg h2] at hC
      by_cases h3 : k = 3
      · subst h3
        rw [if_pos rfl] at hC
        rw [if_neg (by omega)] at hf
        obtain ⟨b, t, rfl, hR, hx⟩ := hf
        unfold reM at hC
        rw [hR] at hC
        simp only at hC
        have hm := match_any b v t s _ (hx.below HBW.out)
        rw [hC] at hm
        have HM := Lib.hid hm
        clear hm hC hx hR
        go_enter Tryz.func95, Tryz.ntmps95
        go_wp2_with fail
        refine HM.out.mono ?_
        rintro e w1 ⟨rfl, hb1⟩
        have HB1 := Lib.hid (HBW.out.trans (hb1.mono HBW.out.size)); clear hb1
        go_wp2; go_ret
        exact ⟨rfl, HB1.out⟩
      · rw [if_neg h3] at hC
        by_cases h4 : k = 4
        · subst h4
          rw [if_pos rfl] at hC
          rw [if_neg (by omega)] at hf
          obtain ⟨b, t, rfl, hR, hx⟩ := hf
          unfold reM at hC
          rw [hR] at hC
          simp only at hC
          have hm := match_any b v t s _ (hx.below HBW.out)
          generalize matchP (compP t []).1 (compP t []).2 (runesB (bl s)) = M at hm hC
          subst hC
          have HM := Lib.hid hm
          clear hm hx hR
          go_enter Tryz.func95, Tryz.ntmps95
          go_wp2_with fail
          refine HM.out.mono ?_
          rintro e w1 ⟨rfl, hb1⟩
          have HB1 := Lib.hid (HBW.out.trans (hb1.mono HBW.out.size)); clear hb1
          go_wp2; go_ret
          exact ⟨rfl, HB1.out⟩
        · rw [if_neg h4] at hC
          subst hC
          clear hf
          go_enter Tryz.func95, Tryz.ntmps95
          go_wp2; go_ret
          exact ⟨rfl, HBW.out⟩
end
end
section
set_option linter.unusedVariables false
set_option linter.unusedSimpArgs false
open Go.RowKit
theorem FormOk.ptr {w : World} {m : Mt'} {f : Value} (h : FormOk w m f) : ∃ p, f = .pointer p := by
  unfold FormOk at h
  split at h
  · exact ⟨none, h⟩
  · obtain ⟨b, t, h, _⟩ := h; exact ⟨_, h⟩
section
set_option maxHeartbeats 3200000
set_option maxRecDepth 100000
end
end
end
end Go.Proofs.YtjgappbomohlcaaGreatDoor
