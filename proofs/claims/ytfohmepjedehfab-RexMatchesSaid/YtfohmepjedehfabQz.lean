/-
  A pattern in memory; a text read as a pattern, or its fault.
-/
import Derived.Test.YtfohmepjedehfabQy
namespace Go.Proofs.Ytfohmepjedehfab
set_option linter.unusedVariables false
set_option linter.unusedSimpArgs false
open Go.RowKit
/-- The cells of a pattern. -/
def rexC (s : ByteArray) (v : Value) (x : Prt) : Array Value := #[.bool true, .string s, v, .int .u64 (wd x.first 0 : Nat), .int .u64 (wd x.first 1 : Nat), .int .u64 (wd x.first 2 : Nat), .int .u64 (wd x.first 3 : Nat), .int .u64 (wd x.last 0 : Nat), .int .u64 (wd x.last 1 : Nat), .int .u64 (wd x.last 2 : Nat), .int .u64 (wd x.last 3 : Nat), .bool x.empty]
structure RexIs (w : World) (b : Nat) (s : ByteArray) (t : Re) : Prop where
  box : ∃ v us, w.heap[b]? = some (.cells (rexC s v (compP t []).1) 87 (0, 0)) ∧ AtIs w 0 v us (compP t []).2
  few : (compP t []).2.length ≤ 256
def RdOut (s : ByteArray) (w : World) (r : Except Flt Re) (e : Ending) (w' : World) : Prop :=
  match r with
  | .ok t => ∃ b, e = .returned (.tuple #[.pointer (some ⟨b, 0, none⟩), .agg #[.int .i64 0, .int .i64 0]]) ∧ w.heap.size ≤ b ∧ RexIs w' b s t ∧ RowKit.Below w.heap.size w w'
  | .error f => e = .returned (.tuple #[.pointer none, .agg #[.int .i64 (f.1 : Nat), .int .i64 (f.2 : Nat)]]) ∧ RowKit.Below w.heap.size w w'
theorem AtIs.low {w : World} {B B' : Nat} {v : Value} {us : List Value} {L : List Atm} (h : AtIs w B v us L) (hb : B' ≤ B) : AtIs w B' v us L := ⟨h.len, h.row.lower hb, fun i u a hu ha => (h.sp i u a hu ha).lower hb⟩
theorem AtIs.below {w w' : World} {B : Nat} {v : Value} {us : List Value} {L : List Atm} (h : AtIs w B v us L) (m : RowKit.Below w.heap.size w w') : AtIs w' B v us L := h.mv (S := fun _ => False) (Mv.of_below m _) fun _ _ f => f
theorem RexIs.below {w w' : World} {b : Nat} {s : ByteArray} {t : Re} (h : RexIs w b s t) (m : RowKit.Below w.heap.size w w') : RexIs w' b s t := by
  obtain ⟨v, us, hb, ha⟩ := h.box
  exact ⟨⟨v, us, (m.block _ (blk_lt hb)).trans hb, ha.below m⟩, h.few⟩
/-- A parser at its beginning. -/
theorem PIs.start {w3 : World} {s : ByteArray} {b c : Nat} (hs : s.size ≤ 256) (h1 : (placesAt 0 (bl s)).length ≤ c) (h2 : c ≤ maxLen) (hb : b < w3.heap.size) (hr : Rd w3 (some ⟨b, 0, none⟩) (pcC (placesAt 0 (bl s)))) :
    PIs (w3.alloc (.cells #[.slice (some ⟨b, 0, none⟩) (placesAt 0 (bl s)).length c, .slice none 0 0] 112)) w3.heap.size (placesAt 0 (bl s)) (.slice none 0 0) [] [] := by
  have hl : (bl s).length ≤ 256 := by rw [bl_len]; exact hs
  refine ⟨⟨b, 0, c, heap_alloc_new _ _, hb, h1, h2, hr.alloc _⟩, ⟨rfl, ⟨rfl, .inl ⟨rfl, rfl⟩⟩, fun i u a hu => by simp at hu⟩, places_ok _ _, places_small _ _ (by omega), ?_⟩
  have := places_len (bl s) 0
  simp; omega
/-- The results laid, the pattern made. -/
theorem read_end {w8 : World} {g : Nat} {x : Value} {bx : Obj} (h1 : w8.heap[g]? = some (.cells #[x] 48 (0, 0))) (h2 : w8.heap[g + 1]? = some (.cells #[.int .i64 0, .int .i64 0] 69 (0, 0))) (y : Value) :
    ∀ X : World, X = (((w8.setCell ⟨g, 0, none⟩ y).setCell ⟨g + 1, 0, none⟩ (.int .i64 0)).setCell ⟨g + 1, 1, none⟩ (.int .i64 0)).alloc bx →
    X.heap[g]? = some (.cells #[y] 48 (0, 0)) ∧ X.heap[g + 1]? = some (.cells #[.int .i64 0, .int .i64 0] 69 (0, 0)) ∧ X.heap[w8.heap.size]? = some bx ∧ Mv (fun k => k = g ∨ k = g + 1) w8 X := fun X e => by
  have m1 : Mv (fun k => k = g) w8 (w8.setCell ⟨g, 0, none⟩ y) := (Mv.refl (fun k => k = g) w8).setCell (p := ⟨g, 0, none⟩) (fun _ => rfl) _
  have s1 := set_blk h1 0 y
  have s2 := (m1.block (g + 1) (blk_lt h2) (by omega)).trans h2
  have m2 : Mv (fun k => k = g + 1) (w8.setCell ⟨g, 0, none⟩ y) ((((w8.setCell ⟨g, 0, none⟩ y).setCell ⟨g + 1, 0, none⟩ (.int .i64 0)).setCell ⟨g + 1, 1, none⟩ (.int .i64 0)).alloc bx) :=
    (((Mv.refl (fun k => k = g + 1) (w8.setCell ⟨g, 0, none⟩ y)).setCell (p := ⟨g + 1, 0, none⟩) (fun _ => rfl) (.int .i64 0)).setCell (p := ⟨g + 1, 1, none⟩) (fun _ => rfl) (.int .i64 0)).alloc bx
  have k2 := set_blk (set_blk s2 0 (.int .i64 0)) 1 (.int .i64 0)
  have k3 := heap_alloc_new (((w8.setCell ⟨g, 0, none⟩ y).setCell ⟨g + 1, 0, none⟩ (.int .i64 0)).setCell ⟨g + 1, 1, none⟩ (.int .i64 0)) bx
  have hsz : (((w8.setCell ⟨g, 0, none⟩ y).setCell ⟨g + 1, 0, none⟩ (.int .i64 0)).setCell ⟨g + 1, 1, none⟩ (.int .i64 0)).heap.size = w8.heap.size := by simp
  rw [hsz] at k3
  subst e
  refine ⟨(m2.block g (blk_lt s1) (by omega)).trans (by simpa using s1), ?_, k3, (m1.mono (T := fun k => k = g ∨ k = g + 1) fun _ _ h => .inl h).trans m2 fun _ _ h => .inr h⟩
  rw [Below.heap_alloc _ _ _ (by rw [hsz]; exact blk_lt h2)]
  simpa using k2
section
set_option maxHeartbeats 3200000
set_option maxRecDepth 100000
theorem read_any (s : ByteArray) (w : World) (hs : s.size ≤ 256) : Calls Try.prog 42 #[.string s] w (RdOut s w (wholeP (placesAt 0 (bl s)))) := by
  obtain ⟨R, hR⟩ : ∃ R, wholeP (placesAt 0 (bl s)) = R := ⟨_, rfl⟩
  rw [hR]
  unfold wholeP at hR
  have hmf : ∀ (fn : Fn) (first cap : Array Value) (w : World), (Instr.makeFunc fn first cap).run Try.prog w = .ok (.func fn first cap) w := fun _ _ _ _ => rfl
  obtain ⟨W, hW⟩ : ∃ W, W = (w.alloc (.cells #[.pointer none] 48)).alloc (.cells #[.int .i64 0, .int .i64 0] 69) := ⟨_, rfl⟩
  have hb : RowKit.Below w.heap.size w W := by rw [hW]; exact ((RowKit.Below.refl _ w).alloc (Nat.le_refl _) _).alloc (by simp) _
  have hg1 : W.heap[w.heap.size]? = some (.cells #[.pointer none] 48 (0, 0)) := by rw [hW, Below.heap_alloc _ _ _ (by simp)]; exact heap_alloc_new _ _
  have hg2 : W.heap[w.heap.size + 1]? = some (.cells #[.int .i64 0, .int .i64 0] 69 (0, 0)) := by rw [hW]; exact heap_alloc_new2 _ _ _
  have HP := Lib.hid (places_any s W (by omega))
  have HW := Lib.hid hW; have HB := Lib.hid hb; have HG1 := Lib.hid hg1; have HG2 := Lib.hid hg2; have HRR := Lib.hid hR
  have hsz : W.heap.size = w.heap.size + 2 := by rw [hW]; simp
  have HSZ := Lib.hid hsz
  clear hW hb hg1 hg2 hR hsz
  go_enter_defers Try.func42, Try.ntmps42
  go_wp2_with fail
  rw [← HW.out]
  refine HP.out.mono ?_
  rintro e w3 ⟨b, c, rfl, hn1, hn2, hWb, hb3, hr3, hbl3⟩
  have hps := PIs.start hs hn1 hn2 hb3 hr3
  obtain ⟨w4, hw4⟩ : ∃ w4, w4 = w3.alloc (.cells #[.slice (some ⟨b, 0, none⟩) (placesAt 0 (bl s)).length c, .slice none 0 0] 112) := ⟨_, rfl⟩
  obtain ⟨p, hp⟩ : ∃ p, p = w3.heap.size := ⟨_, rfl⟩
  rw [← hw4, ← hp] at hps
  have HPS := Lib.hid hps
  have HB4 := Lib.hid (show RowKit.Below W.heap.size W w4 by rw [hw4]; exact hbl3.alloc hbl3.size _)
  have HPW := Lib.hid (show W.heap.size ≤ p by rw [hp]; exact hbl3.size)
  have HPT := Lib.hid (whole_any p _ _ _ _ w4 hps)
  have HW4 := Lib.hid hw4; have HPP := Lib.hid hp
  clear hps hn1 hn2 hWb hb3 hr3 hbl3 hw4 hp HP
  have hR := HRR.out
  generalize placesAt 0 (bl s) = l at *
  generalize patP (grpP 20) l = R1 at hR HPT
  have HR := Lib.hid hR; clear hR HRR
  have HFX := Lib.hid (show ∀ wx, Mv (PM p (.slice none 0 0)) w4 wx → wx.heap[w.heap.size]? = some (.cells #[.pointer none] 48 (0, 0)) ∧ wx.heap[w.heap.size + 1]? = some (.cells #[.int .i64 0, .int .i64 0] 69 (0, 0)) ∧ RowKit.Below w.heap.size w wx from fun wx m => by
    have e0 := HSZ.out
    have e1 := HPW.out
    have mx : Mv (fun k => W.heap.size ≤ k) W wx := (Mv.of_below HB4.out _).trans m fun i hi e => by
      rcases e with e | e
      · omega
      · simp [Value.ownBlock] at e
    exact ⟨(mx.block _ (blk_lt HG1.out) (by omega)).trans HG1.out, (mx.block _ (blk_lt HG2.out) (by omega)).trans HG2.out, HB.out.trans (mx.belowB HB.out.size fun k hk e => by omega)⟩)
  go_wp2_with fail
  rw [← HW4.out, ← HPP.out]
  refine HPT.out.mono ?_
  intro e w5 ho
  cases R1 with
  | error F0 =>
    obtain ⟨rfl, hm5⟩ := ho
    have HFE := Lib.hid (HFX.out w5 hm5)
    have HRX := Lib.hid (show R = .error F0 from HR.out.symm)
    clear hm5
    unfold flE
    go_wp2
    refine leaves_cons (f := 57) (args := #[.pointer (some ⟨w.heap.size, 0, none⟩), .pointer (some ⟨w.heap.size + 1, 0, none⟩)]) (by simp) (by simp [go_sem]) ?_
    refine (catch_panicking w.heap.size (w.heap.size + 1) (by omega) _ _ _ F0 _ HFE.out.1 HFE.out.2.1).mono ?_
    rintro e u' w9 ⟨rfl, rfl, k1, k2, mm⟩
    have c0 := cell_blk k1 0
    have c1 := cell_blk k2 0
    have c2 := cell_blk k2 1
    simp only [List.getElem?_toArray, List.getElem?_cons_zero, List.getElem?_cons_succ] at c0 c1 c2
    have hbel : RowKit.Below w.heap.size w w9 := HFE.out.2.2.trans (mm.belowB HFE.out.2.2.size fun k hk e => by omega)
    have hfin : RdOut s w R (.returned (.tuple #[.pointer none, .agg #[.int .i64 (F0.1 : Nat), .int .i64 (F0.2 : Nat)]])) w9 := by rw [HRX.out]; exact ⟨rfl, hbel⟩
    have HFN := Lib.hid hfin
    clear hfin hbel k1 k2 mm HFE
    simp [Leaves, settle, results, Try.results42, go_sem, c0, c1, c2]
    first | exact HFN.out | (trace_state; sorry)
  | ok x =>
    obtain ⟨t, l1⟩ := x
    obtain ⟨v', us', rfl, h5, hm5⟩ := ho
    obtain ⟨X2, hX⟩ : ∃ X2, compP t [] = X2 := ⟨_, rfl⟩
    rw [hX] at h5 ⊢
    obtain ⟨⟨f, la, em⟩, L1⟩ := X2
    replace h5 : PIs w5 p l1 v' us' L1 := h5
    simp only [partV, partC]
    obtain ⟨w6, hw6⟩ : ∃ w6, w6 = w5.alloc (.cells #[.int .u64 (wd f 0 : Nat), .int .u64 (wd f 1 : Nat), .int .u64 (wd f 2 : Nat), .int .u64 (wd f 3 : Nat), .int .u64 (wd la 0 : Nat), .int .u64 (wd la 1 : Nat), .int .u64 (wd la 2 : Nat), .int .u64 (wd la 3 : Nat), .bool em] 85) := ⟨_, rfl⟩
    obtain ⟨gg, hgg⟩ : ∃ gg, gg = w5.heap.size := ⟨_, rfl⟩
    have hbl : RowKit.Below w5.heap.size w5 w6 := by rw [hw6]; exact (RowKit.Below.refl _ _).alloc (Nat.le_refl _) _
    have h6 := h5.below hbl
    have hm6 := hm5.mv.trans (Mv.of_below hbl (PM p (.slice none 0 0))) fun _ _ h => h
    clear hm5
    obtain ⟨Av, cv, hv, -, -, -⟩ := own_rdg h6.at'.row
    subst hv
    have hfx := HFX.out w6 hm6
    have hbe : w6.heap[gg]? = some (.cells (partL ⟨f, la, em⟩).toArray 85 (0, 0)) := by rw [hw6, hgg]; exact heap_alloc_new _ _
    have hN := now_any p l1 _ us' L1 w6 h6
    have HW6 := Lib.hid hw6; have HGE := Lib.hid hgg; have H6 := Lib.hid h6; have HFE := Lib.hid hfx; have HX := Lib.hid hX
    have hR := HR.out
    simp only at hR
    clear hw6 hgg hbl h5 hm6 h6 hX HR
    by_cases h1 : nowP l1 = -1
    · rw [if_pos h1] at hR
      have HRX := Lib.hid hR.symm
      rw [h1] at hN
      have HN := Lib.hid hN
      have HYY := Lib.hid (fun W => must_yes p W)
      obtain ⟨pb, off, cc, hbx, -, -, -, -⟩ := H6.out.box
      have b1 := cell_blk hbx 1
      simp only [List.getElem?_toArray, List.getElem?_cons_zero, List.getElem?_cons_succ] at b1
      have k0 := cell_blk hfx.1 0
      have k1 := cell_blk hfx.2.1 0
      have k2 := cell_blk hfx.2.1 1
      have q0 := free_blk hfx.1 0
      have q1 := free_blk hfx.2.1 0
      have q2 := free_blk hfx.2.1 1
      simp only [List.getElem?_toArray, List.getElem?_cons_zero, List.getElem?_cons_succ] at k0 k1 k2
      have y0 := cell_blk hbe 0
      have y1 := cell_blk hbe 1
      have y2 := cell_blk hbe 2
      have y3 := cell_blk hbe 3
      have y4 := cell_blk hbe 4
      have y5 := cell_blk hbe 5
      have y6 := cell_blk hbe 6
      have y7 := cell_blk hbe 7
      have y8 := cell_blk hbe 8
      simp only [partL, List.getElem?_toArray, List.getElem?_cons_zero, List.getElem?_cons_succ] at y0 y1 y2 y3 y4 y5 y6 y7 y8
      have hl1 := blk_lt hfx.1
      have hl2 := blk_lt hfx.2.1
      have hn1 : w.heap.size ≠ w6.heap.size := by omega
      have hn2 : w.heap.size + 1 ≠ w6.heap.size := by omega
      have HFW := Lib.hid hfx
      have HBX := Lib.hid hbx
      clear hN hR h1 hfx hbe hbx
      go_wp2_with fail
      rw [← HW6.out, ← HGE.out]
      refine HN.out.mono ?_
      rintro e w7 ⟨rfl, rfl⟩
      go_wp2_with fail
      refine (HYY.out _).mono ?_
      rintro e w8 ⟨rfl, rfl⟩
      go_wp2
      obtain ⟨X, hX⟩ : ∃ X, X = (((w8.setCell ⟨w.heap.size, 0, none⟩ (.pointer (some ⟨w8.heap.size, 0, none⟩))).setCell ⟨w.heap.size + 1, 0, none⟩ (.int .i64 0)).setCell ⟨w.heap.size + 1, 1, none⟩ (.int .i64 0)).alloc (.cells #[.bool true, .string s, .slice Av L1.length cv, .int .u64 (wd f 0 : Nat), .int .u64 (wd f 1 : Nat), .int .u64 (wd f 2 : Nat), .int .u64 (wd f 3 : Nat), .int .u64 (wd la 0 : Nat), .int .u64 (wd la 1 : Nat), .int .u64 (wd la 2 : Nat), .int .u64 (wd la 3 : Nat), .bool em] 87) := ⟨_, rfl⟩
      rw [← hX]
      obtain ⟨j1, j2, j3, mm⟩ := read_end HFW.out.1 HFW.out.2.1 (.pointer (some ⟨w8.heap.size, 0, none⟩)) X hX
      have c0 := cell_blk j1 0
      have c1 := cell_blk j2 0
      have c2 := cell_blk j2 1
      simp only [List.getElem?_toArray, List.getElem?_cons_zero, List.getElem?_cons_succ] at c0 c1 c2
      have hgp : w.heap.size + 1 < p + 1 := by have := HPW.out; have := HSZ.out; omega
      have hfin : RdOut s w R (.returned (.tuple #[.pointer (some ⟨w8.heap.size, 0, none⟩), .agg #[.int .i64 0, .int .i64 0]])) X := by
        rw [HRX.out]
        refine ⟨w8.heap.size, rfl, HFW.out.2.2.size, ⟨⟨.slice Av L1.length cv, us', by rw [HX.out]; exact j3, ?_⟩, by rw [HX.out]; have := H6.out.few; have := List.length_pos_iff.2 H6.out.ok.ne; simp only; omega⟩, HFW.out.2.2.trans (mm.belowB HFW.out.2.2.size fun k hk e => by omega)⟩
        rw [HX.out]
        exact (H6.out.at'.mv mm fun k hk e => by omega).low (Nat.zero_le _)
      have HFN := Lib.hid hfin
      clear hfin j1 j2 j3 mm hX HFW HBX H6
      refine leaves_cons (f := 57) (args := #[.pointer (some ⟨w.heap.size, 0, none⟩), .pointer (some ⟨w.heap.size + 1, 0, none⟩)]) (by simp) (by simp [go_sem]) ?_
      refine (catch_idle _ _ _).mono ?_
      rintro e u' w9 ⟨rfl, rfl, rfl⟩
      simp [Leaves, settle, results, Try.results42, go_sem, c0, c1, c2]
      first | exact HFN.out | (trace_state; sorry)
    · rw [if_neg h1] at hR
      have HRX := Lib.hid hR.symm
      have g1 : (nowP l1 == -1) = false := by rw [beq_eq_false_iff_ne]; exact h1
      have HNO := Lib.hid (must_no p l1 _ us' L1 w6 H6.out)
      obtain ⟨F0, hF⟩ : ∃ F0 : Flt, F0 = (atP l1, 8) := ⟨_, rfl⟩
      have HRX := Lib.hid (show R = .error F0 by rw [hF]; exact hR.symm)
      have e1 : (atP l1 : Int) = ((F0.1 : Nat) : Int) := by rw [hF]
      have e2 : ((8 : Int)) = ((F0.2 : Nat) : Int) := by rw [hF]; rfl
      have HNP := Lib.hid (show Calls Try.prog 60 #[.pointer (some ⟨p, 0, none⟩), .bool false] w6 (fun e w' => e = .panicked [{ v := .iface 69 (.agg #[.int .i64 (F0.1 : Nat), .int .i64 (F0.2 : Nat)]), recovered := false }] ∧ w' = w6) by rw [← e1, ← e2]; exact HNO.out)
      clear hR hF e1 e2 HNO hfx hbe
      generalize nowP l1 = cn at g1 hN
      have HN := Lib.hid hN
      clear hN h1
      go_wp2_with fail
      rw [← HW6.out, ← HGE.out]
      refine HN.out.mono ?_
      rintro e w7 ⟨rfl, rfl⟩
      go_wp2_with fail
      refine HNP.out.mono ?_
      rintro e w8 ⟨rfl, rfl⟩
      go_wp2
      refine leaves_cons (f := 57) (args := #[.pointer (some ⟨w.heap.size, 0, none⟩), .pointer (some ⟨w.heap.size + 1, 0, none⟩)]) (by simp) (by simp [go_sem]) ?_
      refine (catch_panicking w.heap.size (w.heap.size + 1) (by omega) _ _ _ F0 _ HFE.out.1 HFE.out.2.1).mono ?_
      rintro e u' w9 ⟨rfl, rfl, k1, k2, mm⟩
      have c0 := cell_blk k1 0
      have c1 := cell_blk k2 0
      have c2 := cell_blk k2 1
      simp only [List.getElem?_toArray, List.getElem?_cons_zero, List.getElem?_cons_succ] at c0 c1 c2
      have hbel : RowKit.Below w.heap.size w w9 := HFE.out.2.2.trans (mm.belowB HFE.out.2.2.size fun k hk e => by omega)
      have hfin : RdOut s w R (.returned (.tuple #[.pointer none, .agg #[.int .i64 (F0.1 : Nat), .int .i64 (F0.2 : Nat)]])) w9 := by rw [HRX.out]; exact ⟨rfl, hbel⟩
      have HFN := Lib.hid hfin
      clear hfin hbel k1 k2 mm HFE
      simp [Leaves, settle, results, Try.results42, go_sem, c0, c1, c2]
      first | exact HFN.out | (trace_state; sorry)
end
end Go.Proofs.Ytfohmepjedehfab
