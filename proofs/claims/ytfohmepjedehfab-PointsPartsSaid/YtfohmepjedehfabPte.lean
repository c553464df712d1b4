/-
  The last point of a window: the program's and the plain answers' own.
-/
import Derived.Test.YtfohmepjedehfabPt5
import Derived.Test.YtfohmepjedehfabPtd
namespace Go.Proofs.Ytfohmepjedehfab
set_option linter.unusedVariables false
set_option linter.unusedSimpArgs false
open Go.RowKit
theorem results_pt2 {fn : Func} {p u : Tmp} (h : fn.results = #[.cell p 25, .tmp u]) (tmps : Array Value) (w : World) (g : Nat) (cs : Array Value)
    (hp : tmps.getD p undef = .pointer (some ⟨g, 0, none⟩)) (hg : w.heap[g]? = some (.cells cs 25 (0, 0))) (hc : cs.size = 3) :
    (results fn tmps).run Try.prog w = .ok (.tuple #[.agg cs, tmps.getD u undef]) w := by
  have hp' : tmps[p]?.getD undef = .pointer (some ⟨g, 0, none⟩) := by simpa using hp
  simp [results, h, hp', asAddr, run_loadVar_row w g 25 25 cs (0, 0) _ hg Try.underlying25 rfl (by rw [hc]; kernel_rfl)]
theorem post_pt2 {fn : Func} {R : Ending → World → Prop} {a : Act} {w : World} {p u : Tmp} (h : fn.results = #[.cell p 25, .tmp u]) (g : Nat) (cs : Array Value)
    (hp : a.tmps.getD p undef = .pointer (some ⟨g, 0, none⟩)) (hg : w.heap[g]? = some (.cells cs 25 (0, 0))) (hc : cs.size = 3) (hdf : a.defers = [])
    (hR : R (.returned (.tuple #[.agg cs, a.tmps.getD u undef])) w) : bodyPost Try.prog fn R .ret a w :=
  bodyPost_ret (results_pt2 h a.tmps w g cs hp hg hc) hdf hR
/-- The last one of which f says so, and whether there is one. -/
def lastP (l : List Pt) (f : Pt → Bool) : Pt × Bool := match (l.filter f).getLast? with | some q => (q, true) | none => ((0, 0, 0), false)
theorem last_none {l : List Pt} {f : Pt → Bool} (h : l.filter f = []) : lastP l f = ((0, 0, 0), false) := by unfold lastP; rw [h]; rfl
theorem last_some {l : List Pt} {f : Pt → Bool} {j : Nat} {q : Pt} (h : l[j]? = some q) (hq : f q = true) (ht : (l.drop (j + 1)).filter f = []) : lastP l f = (q, true) := by
  obtain ⟨hj, e⟩ := List.getElem?_eq_some_iff.1 h
  have hl : l = l.take j ++ q :: l.drop (j + 1) := by rw [← e, ← List.drop_eq_getElem_cons hj, List.take_append_drop]
  have : l.filter f = (l.take j).filter f ++ [q] := by
    conv => lhs; rw [hl]
    rw [List.filter_append, List.filter_cons, if_pos hq, ht]
  unfold lastP
  rw [this, List.getLast?_append]
  rfl
theorem tail_step {l : List Pt} {f : Pt → Bool} {j : Nat} {q : Pt} (h : l[j]? = some q) (hq : f q = false) (ht : (l.drop (j + 1)).filter f = []) : (l.drop j).filter f = [] := by
  obtain ⟨hj, e⟩ := List.getElem?_eq_some_iff.1 h
  rw [List.drop_eq_getElem_cons hj, e, List.filter_cons, if_neg (by rw [hq]; simp), ht]
section
set_option maxHeartbeats 1600000
set_option maxRecDepth 100000
theorem at_any (A : Option Addr) (c : Nat) (l : List Pt) (t back : Int) (w : World) (hx : Rd w A (pcells l)) (hl : l.length ≤ 2000) :
    Calls Try.prog 14 #[.slice A l.length c, .int .i64 t, .int .u64 back] w fun e w' => e = .returned (.tuple #[aggPt (lastP l (nearB t back)).1, .bool (lastP l (nearB t back)).2]) ∧ RowKit.Below w.heap.size w w' := by
  obtain ⟨R, hR⟩ : ∃ R, R = lastP l (nearB t back) := ⟨_, rfl⟩
  rw [← hR]
  obtain ⟨W, hW⟩ : ∃ W, W = w.alloc (.cells (boxPt (0, 0, 0)) 25) := ⟨_, rfl⟩
  have hbw : RowKit.Below w.heap.size w W := by rw [hW]; exact (RowKit.Below.refl _ w).alloc (Nat.le_refl _) _
  have HZ := Lib.hid (show PBox W w.heap.size (0, 0, 0) by rw [hW]; exact PBox.new w _)
  have HR := Lib.hid hR; have HX := Lib.hid (hx.below hbw); have HBW := Lib.hid hbw
  have hsW := hbw.size
  unfold boxPt at hW
  have HW := Lib.hid hW
  have q0 : IntKind.i64.wrap ((l.length : Int) - 1) = (l.length : Int) - 1 := IntWalk.i64_in _ (by omega)
  clear hR hx hbw hW
  go_enter Try.func14, Try.ntmps14
  go_wp2_with fail
  rw [← HW.out]
  go_wp2_with fail
  go_loopw [8] (fun s8 wr => ∃ z : Int, s8 = .int .i64 z ∧ -1 ≤ z ∧ z < l.length ∧ Aside (RowKit.Below W.heap.size W wr) ∧ Aside ((l.drop (z + 1).toNat).filter (nearB t back) = [])) (fun s8 _ => (intOf s8 + 1).toNat)
  case atStart => exact ⟨(l.length : Int) - 1, by go_num, by omega, by omega, RowKit.Below.refl _ _, (by rw [show ((l.length : Int) - 1 + 1).toNat = l.length by omega, List.drop_length]; rfl)⟩
  case round =>
    obtain ⟨z, rfl, hz1, hz2, BW, E⟩ := hrel
    have hzb : PBox wr w.heap.size (0, 0, 0) := HZ.out.below BW.out
    by_cases hz : 0 ≤ z
    · obtain ⟨j, rfl⟩ := Int.eq_ofNat_of_zero_le hz
      have hj : j < l.length := by omega
      have j0 : (0 : Int) ≤ (j : Int) := by omega
      have j1 : (j : Int) < (l.length : Int) := by omega
      have q1 : IntKind.i64.wrap ((j : Int) - 1) = (j : Int) - 1 := IntWalk.i64_in _ (by omega)
      obtain ⟨q, hq⟩ : ∃ q, l[j]? = some q := ⟨_, List.getElem?_eq_getElem hj⟩
      obtain ⟨b, off, rfl, c0, c1, c2⟩ := pt_at' (HX.out.below BW.out) hq
      have hE := E.out
      rw [show ((j : Int) + 1).toNat = j + 1 by omega] at hE
      have HN := Lib.hid (near_any q t back wr)
      have HQ := Lib.hid hq; have HE := Lib.hid hE; have HB := Lib.hid BW.out; have HZB := Lib.hid hzb
      clear hq hE E BW hzb
      cases hn : nearB t back q with
      | true =>
        rw [hn] at HN
        have hres := last_some HQ.out hn HE.out
        rw [← HR.out] at hres
        have HRES := Lib.hid hres; clear hres hn
        obtain ⟨q1', q2, q3⟩ := q
        unfold aggPt at HN
        simp only at c0 c1 c2 HN
        go_wp2_with fail
        refine HN.out.mono ?_
        rintro e w3 ⟨rfl, hb3⟩
        have hz3 := HZB.out.below hb3
        obtain ⟨z0, z1, z2⟩ := hz3.cells
        have f0 := free_blk hz3 0; have f1 := free_blk hz3 1; have f2 := free_blk hz3 2
        obtain ⟨d0, d1, d2⟩ := pt_cells (HX.out.below (HB.out.trans (hb3.mono HB.out.size))) HQ.out
        simp only at d0 d1 d2 z0 z1 z2
        have hs3 := PBox.set3 hz3 (q1', q2, q3)
        have HS3 := Lib.hid hs3
        have HB3 := Lib.hid (HBW.out.trans ((HB.out.trans (hb3.mono HB.out.size)).mono hsW))
        clear hz3 hs3 hb3
        go_wp2_with fail
        refine post_pt2 rfl w.heap.size (boxPt (q1', q2, q3)) rfl HS3.out rfl rfl ⟨by rw [HRES.out]; rfl, ?_⟩
        exact ((HB3.out.setCell (p := ⟨w.heap.size, 0, none⟩) (Nat.le_refl _) _).setCell (p := ⟨w.heap.size, 1, none⟩) (Nat.le_refl _) _).setCell (p := ⟨w.heap.size, 2, none⟩) (Nat.le_refl _) _
      | false =>
        rw [hn] at HN
        have hE2 := tail_step HQ.out hn HE.out
        have HE2 := Lib.hid hE2; clear hE2 hn
        obtain ⟨q1', q2, q3⟩ := q
        unfold aggPt at HN
        simp only at c0 c1 c2 HN
        go_wp2_with fail
        refine HN.out.mono ?_
        rintro e w3 ⟨rfl, hb3⟩
        have HB3 := Lib.hid (HB.out.trans (hb3.mono HB.out.size)); clear hb3
        go_wp2_with fail
        go_roundw
        case rel => exact ⟨(j : Int) - 1, by go_num, by omega, by omega, (show Aside _ from HB3.out), (show Aside _ from (by rw [show ((j : Int) - 1 + 1).toNat = j by omega]; exact HE2.out))⟩
        case measure => simp [intOf] <;> omega
    · obtain rfl : z = -1 := by omega
      have hE := E.out
      rw [show ((-1 : Int) + 1).toNat = 0 by omega, List.drop_zero] at hE
      have hres := last_none hE
      rw [← HR.out] at hres
      obtain ⟨z0, z1, z2⟩ := hzb.cells
      have f0 := free_blk hzb 0; have f1 := free_blk hzb 1; have f2 := free_blk hzb 2
      have HS3 := Lib.hid (PBox.set3 hzb (0, 0, 0))
      have HRES := Lib.hid hres
      have HB3 := Lib.hid (HBW.out.trans (BW.out.mono hsW))
      simp only at z0 z1 z2
      clear hE E BW hres hzb
      go_wp2_with fail
      refine post_pt2 rfl w.heap.size (boxPt (0, 0, 0)) rfl HS3.out rfl rfl ⟨by rw [HRES.out]; rfl, ?_⟩
      exact ((HB3.out.setCell (p := ⟨w.heap.size, 0, none⟩) (Nat.le_refl _) _).setCell (p := ⟨w.heap.size, 1, none⟩) (Nat.le_refl _) _).setCell (p := ⟨w.heap.size, 2, none⟩) (Nat.le_refl _) _
theorem last_of {l : List Pt} {f : Pt → Bool} {q : Pt} {k : Nat} (h : (l.filter f)[k]? = some q) (hk : k + 1 = (l.filter f).length) : lastP l f = (q, true) := by
  unfold lastP
  rw [List.getLast?_eq_getElem?, show (l.filter f).length - 1 = k by omega, h]
theorem rat_any (A : Option Addr) (c : Nat) (l : List Pt) (t back : Int) (w : World) (hx : Rd w A (pcells l)) (hl : l.length ≤ 2000) :
    Calls Try.prog 15 #[.slice A l.length c, .int .i64 t, .int .u64 back] w fun e w' => e = .returned (.tuple #[aggPt (lastP l (nearB t back)).1, .bool (lastP l (nearB t back)).2]) ∧ RowKit.Below w.heap.size w w' := by
  obtain ⟨R, hR⟩ : ∃ R, R = lastP l (nearB t back) := ⟨_, rfl⟩
  rw [← hR]
  obtain ⟨W, hW⟩ : ∃ W, W = w.alloc (.cells (boxPt (0, 0, 0)) 25) := ⟨_, rfl⟩
  have hbw : RowKit.Below w.heap.size w W := by rw [hW]; exact (RowKit.Below.refl _ w).alloc (Nat.le_refl _) _
  have HZ := Lib.hid (show PBox W w.heap.size (0, 0, 0) by rw [hW]; exact PBox.new w _)
  have HR := Lib.hid hR; have HBW := Lib.hid hbw
  have hsW := hbw.size
  have HC := Lib.hid (rwin_any A c l t back W (hx.below hbw) hl)
  have HLS := Lib.hid (fun (k : Nat) (q : Pt) (h1 : (l.filter (nearB t back))[k]? = some q) (h2 : k + 1 = (l.filter (nearB t back)).length) => last_of h1 h2)
  have HLN := Lib.hid (fun (h1 : l.filter (nearB t back) = []) => last_none h1)
  rw [← hR] at HLS HLN
  have lm := List.length_filter_le (nearB t back) l
  generalize l.filter (nearB t back) = m at HC HLS HLN lm
  unfold boxPt at hW
  have HW := Lib.hid hW
  clear hR hx hbw hW
  go_enter Try.func15, Try.ntmps15
  go_wp2_with fail
  rw [← HW.out]
  go_wp2_with fail
  refine HC.out.mono ?_
  rintro e w3 ⟨A3, c3, rfl, ho, hb3⟩
  have hz3 := HZ.out.below hb3
  obtain ⟨z0, z1, z2⟩ := hz3.cells
  have f0 := free_blk hz3 0; have f1 := free_blk hz3 1; have f2 := free_blk hz3 2
  simp only at z0 z1 z2
  have HB3 := Lib.hid (HBW.out.trans (hb3.mono hsW))
  have HZ3 := Lib.hid hz3; have HO := Lib.hid ho
  clear hz3 hb3 ho
  cases m with
  | nil =>
    have HRES := Lib.hid (HLN.out rfl)
    have HS3 := Lib.hid (PBox.set3 HZ3.out (0, 0, 0))
    simp only [List.length_nil]
    go_wp2_with fail
    refine post_pt2 rfl w.heap.size (boxPt (0, 0, 0)) rfl HS3.out rfl rfl ⟨by rw [HRES.out]; rfl, ?_⟩
    exact ((HB3.out.setCell (p := ⟨w.heap.size, 0, none⟩) (Nat.le_refl _) _).setCell (p := ⟨w.heap.size, 1, none⟩) (Nat.le_refl _) _).setCell (p := ⟨w.heap.size, 2, none⟩) (Nat.le_refl _) _
  | cons y ys =>
    obtain ⟨q, hq⟩ : ∃ q, (y :: ys)[ys.length]? = some q := ⟨_, List.getElem?_eq_getElem (by simp)⟩
    have HRES := Lib.hid (HLS.out ys.length q hq (by simp))
    have HS3 := Lib.hid (PBox.set3 HZ3.out q)
    obtain ⟨X, kx, ex, hrd, -, -⟩ := own_rd_pt HO.out
    injection ex with ex _ _
    subst ex
    obtain ⟨b, off, rfl, d0, d1, d2⟩ := pt_at' hrd hq
    have HRD := Lib.hid hrd
    clear hq hrd
    obtain ⟨q1', q2, q3⟩ := q
    simp only [List.length_cons] at d0 d1 d2 lm ⊢
    have y0 : ((ys.length : Int) + 1 == (0 : Int)) = false := by simp; omega
    have y1 : (0 : Int) ≤ (ys.length : Int) := by omega
    have y2 : (ys.length : Int) < (ys.length : Int) + 1 := by omega
    have y3 : IntKind.i64.wrap (ys.length : Int) = (ys.length : Int) := IntWalk.i64_in _ (by omega)
    have y4 : IntKind.i64.wrap ((ys.length : Int) + 1 - 1) = (ys.length : Int) := by rw [show (ys.length : Int) + 1 - 1 = (ys.length : Int) by omega]; exact y3
    have y5 : ¬ ((ys.length : Int) + 1 = 0) := by omega
    go_wp2_with fail
    refine post_pt2 rfl w.heap.size (boxPt (q1', q2, q3)) rfl HS3.out rfl rfl ⟨by rw [HRES.out]; rfl, ?_⟩
    exact ((HB3.out.setCell (p := ⟨w.heap.size, 0, none⟩) (Nat.le_refl _) _).setCell (p := ⟨w.heap.size, 1, none⟩) (Nat.le_refl _) _).setCell (p := ⟨w.heap.size, 2, none⟩) (Nat.le_refl _) _
end
end Go.Proofs.Ytfohmepjedehfab
