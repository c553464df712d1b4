/-
  To which places of a text one comes by a part taken many times: what a round of the inner loop keeps.
  To which places of a text one comes by a part taken many times.
  To which places of a text one comes by any part of a pattern, as the plain answers reckon it.
  Whether a pattern matches a text, as the plain answers reckon it.
-/
import Derived.Test.YtinjdlplbficiaaGreatDoorPzm
import Derived.Test.YtinjdlplbficiaaGreatDoorPza
import Derived.Test.YtinjdlplbficiaaGreatDoorRe
namespace Go.Proofs.YtinjdlplbficiaaGreatDoor
set_option linter.unusedVariables false
set_option linter.unusedSimpArgs false
section
set_option linter.unusedVariables false
set_option linter.unusedSimpArgs false
open Go.RowKit
/-- The first k of one row, then what is left of another. -/
def mix2 (a b : List Bool) (k : Nat) : List Bool := a.take k ++ b.drop k
theorem mix2_zero (a b : List Bool) : mix2 a b 0 = b := by simp [mix2]
theorem mix2_full {a b : List Bool} (h : a.length = b.length) : mix2 a b a.length = a := by rw [mix2, List.take_length, h, List.drop_length, List.append_nil]
theorem mix2_len {a b : List Bool} {k : Nat} (h : a.length = b.length) (hk : k ≤ a.length) : (mix2 a b k).length = a.length := by simp [mix2]; omega
theorem mix2_set {a b : List Bool} {k : Nat} (h : a.length = b.length) (hk : k < a.length) : (mix2 a b k).set k a[k] = mix2 a b (k + 1) := by
  unfold mix2
  have hl : (a.take k).length = k := by rw [List.length_take]; omega
  rw [List.drop_eq_getElem_cons (by omega), List.set_append_right _ _ (by omega), hl, Nat.sub_self, List.set_cons_zero, List.take_add_one, List.getElem?_eq_getElem hk]
  simp only [Option.toList_some, List.append_assoc, List.cons_append, List.nil_append]
theorem mix2_at {a b : List Bool} {k : Nat} (h : a.length = b.length) (hk : k < b.length) : (mix2 a b k)[k]? = some b[k] := by
  unfold mix2
  have hl : (a.take k).length = k := by rw [List.length_take]; omega
  rw [List.getElem?_append_right (by omega), hl, Nat.sub_self, List.drop_eq_getElem_cons hk]
  rfl
theorem any_take {l : List Bool} {k : Nat} (hk : k < l.length) : (l.take (k + 1)).any id = ((l.take k).any id || l[k]) := by
  rw [List.take_add_one, List.getElem?_eq_getElem hk, List.any_append]
  simp
/-- What holds at the head of a round of the inner loop: o is the row as it was, fr what is new in it. -/
structure InRel (w : World) (cs : Array Value) (RF RN : Nat) (o fr nx : List Bool) (wr : World) (k : Nat) : Prop where
  out : BBlk wr (w.heap.size + 1) (mix2 (orL o fr) o k)
  fresh : BBlk wr RF (mixB fr k)
  next : BBlk wr RN nx
  box : wr.heap[w.heap.size]? = some (.cells cs 172 (0, 0))
  below : Below w.heap.size w wr
  geF : w.heap.size + 2 ≤ RF
  geN : w.heap.size + 2 ≤ RN
  ne : RF ≠ RN
theorem InRel.step {w wr : World} {cs : Array Value} {RF RN k : Nat} {o fr nx : List Bool} {y z : Bool} (h : InRel w cs RF RN o fr nx wr k) (hl : fr.length = o.length) (hk : k < fr.length) (hy : fr[k] = y) (hz : (o[k]'(hl ▸ hk) || y) = z) :
    InRel w cs RF RN o fr nx ((wr.setCell ⟨RF, k, none⟩ (.bool y)).setCell ⟨w.heap.size + 1, k, none⟩ (.bool z)) (k + 1) := by
  have g1 := h.geF
  have g2 := h.geN
  have lo : (orL o fr).length = o.length := orL_len hl.symm
  have hk2 : k < (orL o fr).length := by omega
  have e : (orL o fr)[k] = z := by rw [← hz, ← hy]; simp [orL]
  have o1 : BBlk (wr.setCell ⟨RF, k, none⟩ (.bool y)) (w.heap.size + 1) (mix2 (orL o fr) o k) := (heap_setCell_other _ _ _ _ (show w.heap.size + 1 ≠ RF by omega)).trans h.out
  have f1 : BBlk (wr.setCell ⟨RF, k, none⟩ (.bool y)) RF (mixB fr (k + 1)) := by rw [← mixB_set hk, hy]; exact h.fresh.set y
  exact ⟨by rw [← mix2_set lo hk2, e]; exact o1.set z, (heap_setCell_other _ _ _ _ (show RF ≠ w.heap.size + 1 by omega)).trans f1,
    (heap_setCell_other _ _ _ _ (show RN ≠ w.heap.size + 1 by omega)).trans ((heap_setCell_other _ _ _ _ (show RN ≠ RF from h.ne.symm)).trans h.next),
    (heap_setCell_other _ _ _ _ (show w.heap.size ≠ w.heap.size + 1 by omega)).trans ((heap_setCell_other _ _ _ _ (show w.heap.size ≠ RF by omega)).trans h.box),
    (h.below.setCell (show w.heap.size ≤ RF by omega) _).setCell (by simp) _, h.geF, h.geN, h.ne⟩
theorem InRel.cells {w wr : World} {cs : Array Value} {RF RN k : Nat} {o fr nx : List Bool} (h : InRel w cs RF RN o fr nx wr k) (hl : fr.length = o.length) (hn : nx.length = o.length) (hk : k < fr.length) :
    wr.cell? ⟨w.heap.size + 1, k, none⟩ = some (.bool (o[k]'(hl ▸ hk))) ∧ wr.cell? ⟨RN, k, none⟩ = some (.bool (nx[k]'(by omega))) ∧ (∃ u, wr.cell? ⟨RF, k, none⟩ = some u) ∧ wr.frozen? ⟨RF, k, none⟩ = false ∧ wr.frozen? ⟨w.heap.size + 1, k, none⟩ = false := by
  have lo : (orL o fr).length = o.length := orL_len hl.symm
  refine ⟨?_, ?_, ⟨_, by rw [h.fresh.cell, List.getElem?_map, List.getElem?_eq_getElem (by rw [mixB_len (by omega)]; exact hk)]; rfl⟩, free_blk h.fresh k, free_blk h.out k⟩
  · rw [h.out.cell, List.getElem?_map, mix2_at lo (by omega)]; rfl
  · rw [h.next.cell, List.getElem?_map, List.getElem?_eq_getElem (by omega)]; rfl
theorem set_same {w : World} {b k : Nat} {l : List Bool} (h : BBlk w b l) (hk : k < l.length) (y : Bool) : (w.setCell ⟨b, k, none⟩ (.bool y)).cell? ⟨b, k, none⟩ = some (.bool y) := by
  rw [(h.set y).cell, List.getElem?_map, List.getElem?_set_self hk]; rfl
theorem InRel.inner {w wr : World} {cs : Array Value} {RF RN k : Nat} {o fr nx : List Bool} (h : InRel w cs RF RN o fr nx wr k) (hl : fr.length = o.length) (hk : k < fr.length) :
    (∀ y, (wr.setCell ⟨RF, k, none⟩ (.bool y)).cell? ⟨w.heap.size + 1, k, none⟩ = some (.bool (o[k]'(hl ▸ hk)))) ∧ (∀ y, (wr.setCell ⟨RF, k, none⟩ (.bool y)).cell? ⟨RF, k, none⟩ = some (.bool y)) ∧ (∀ y, (wr.setCell ⟨RF, k, none⟩ (.bool y)).frozen? ⟨w.heap.size + 1, k, none⟩ = false) ∧
      (∀ y z, ((wr.setCell ⟨RF, k, none⟩ (.bool y)).setCell ⟨w.heap.size + 1, k, none⟩ (.bool z)).cell? ⟨RF, k, none⟩ = some (.bool y)) := by
  have g1 := h.geF
  have lo : (orL o fr).length = o.length := orL_len hl.symm
  have hs := fun y => set_same h.fresh (k := k) (by rw [mixB_len (by omega)]; exact hk) y
  have ho : ∀ y, BBlk (wr.setCell ⟨RF, k, none⟩ (.bool y)) (w.heap.size + 1) (mix2 (orL o fr) o k) := fun y => (heap_setCell_other _ _ _ _ (show w.heap.size + 1 ≠ RF by omega)).trans h.out
  refine ⟨fun y => ?_, hs, fun y => free_blk (ho y) k, fun y z => cell_set_ne (hs y) (show RF ≠ w.heap.size + 1 by omega)⟩
  rw [(ho y).cell, List.getElem?_map, mix2_at lo (by omega)]; rfl
end
section
set_option linter.unusedVariables false
set_option linter.unusedSimpArgs false
open Go.RowKit
/-- What holds at the head of a round of the outer loop. -/
structure OutRel (w : World) (cs : Array Value) (step : List Bool → List Bool) (once : Bool) (L : Nat) (RES : List Bool) (wr : World) (j : Nat) (AN : Option Addr) (oo nw : List Bool) : Prop where
  out : BBlk wr (w.heap.size + 1) oo
  now : Rd wr AN (nw.map Value.bool)
  lo : oo.length = L
  ln : nw.length = L
  box : wr.heap[w.heap.size]? = some (.cells cs 172 (0, 0))
  below : Below w.heap.size w wr
  eq : rounds step once (L + 1 - j) oo nw = RES
theorem OutRel.ended {w : World} {cs : Array Value} {step : List Bool → List Bool} {once : Bool} {L : Nat} {RES : List Bool} {wr : World} {AN : Option Addr} {out now : List Bool} (h : OutRel w cs step once L RES wr (L + 1) AN out now) : out = RES := by
  have e := h.eq
  rw [Nat.sub_self] at e
  exact e
theorem OutRel.once {w : World} {cs : Array Value} {step : List Bool → List Bool} {once : Bool} {L : Nat} {RES : List Bool} {wr : World} {j : Nat} {AN : Option Addr} {out now : List Bool} (h : OutRel w cs step once L RES wr j AN out now) (hj : j < L + 1) (ho : (once || !((freshL (step now) out).any id)) = true) : orL out (freshL (step now) out) = RES := by
  have e := h.eq
  rw [show L + 1 - j = L - j + 1 by omega] at e
  unfold rounds at e
  rw [if_pos ho] at e
  exact e
theorem OutRel.next {w : World} {cs : Array Value} {step : List Bool → List Bool} {once : Bool} {L : Nat} {RES : List Bool} {wr w2 : World} {j : Nat} {AN : Option Addr} {out now : List Bool} {RF RN : Nat} {nx fr : List Bool} (h : OutRel w cs step once L RES wr j AN out now) (hj : j < L + 1) (hf : fr = freshL (step now) out) (hl : fr.length = L) (ho : (once || !(fr.any id)) = false)
    (i : InRel w cs RF RN out fr nx w2 L) : OutRel w cs step once L RES w2 (j + 1) (some ⟨RF, 0, none⟩) (orL out fr) fr := by
  subst hf
  have e := h.eq
  rw [show L + 1 - j = L - j + 1 by omega] at e
  unfold rounds at e
  rw [if_neg (by rw [ho]; decide)] at e
  have lo : (orL out (freshL (step now) out)).length = out.length := orL_len (by rw [h.lo, hl])
  have fl := h.lo
  have o := i.out
  rw [show L = (orL out (freshL (step now) out)).length by rw [lo, h.lo], mix2_full lo] at o
  have f := i.fresh
  rw [show L = (freshL (step now) out).length from hl.symm, mixB_full] at f
  exact ⟨o, f.rd, by rw [lo, h.lo], hl, i.box, i.below, by rw [show L + 1 - (j + 1) = L - j by omega]; exact e⟩
section
set_option maxHeartbeats 3200000
set_option maxRecDepth 100000
theorem ends_star (p : Nat) (N : List Nd) (ws : List Int) (hl : ws.length ≤ 990) (x : Re) (hx : EnC p N ws x) : EnC p N ws (.star x) := by
  intro i hrep A B ca cb f w ht ha hb hf
  obtain ⟨n, hn, hk, _, rx⟩ := hrep
  obtain ⟨b, off, c, A', c', k3, n0, n1, n2, n3, n4, hsp, hsl⟩ := ht.node hn
  have hlt := (List.getElem?_eq_some_iff.mp hn).1
  have i1 : (i : Int) < (N.length : Int) := by omega
  have i0 : (0 : Int) ≤ (i : Int) := by omega
  rw [hk] at n0
  clear hsp hsl hn hk
  have hmk := fun u => run_falses u f.length (by omega)
  obtain ⟨W1, hW1⟩ : ∃ W1, W1 = w.alloc (.cells #[.int .i64 3, .int .i64 (n.a : Nat), .int .i64 (n.b : Nat), .slice A' n.sp.length c', .bool n.neg] 172) := ⟨_, rfl⟩
  obtain ⟨W2, hW2⟩ : ∃ W2, W2 = W1.alloc (.cells (Array.replicate f.length (.bool false)) 4) := ⟨_, rfl⟩
  have hbx : W1.heap[w.heap.size]? = some (.cells #[.int .i64 3, .int .i64 (n.a : Nat), .int .i64 (n.b : Nat), .slice A' n.sp.length c', .bool n.neg] 172 (0, 0)) := by rw [hW1]; exact heap_alloc_new _ _
  have hb1 : Below w.heap.size w W1 := by rw [hW1]; exact (RowKit.Below.refl _ w).alloc (Nat.le_refl _) _
  have hb2 : Below W1.heap.size W1 W2 := by rw [hW2]; exact (RowKit.Below.refl _ W1).alloc (Nat.le_refl _) _
  have hbx2 := (hb2.block _ (blk_lt hbx)).trans hbx
  have m0 : W2.cell? ⟨w.heap.size, 0, none⟩ = some (.int .i64 3) := cell_blk hbx2 0
  have m1 : W2.cell? ⟨w.heap.size, 1, none⟩ = some (.int .i64 (n.a : Nat)) := cell_blk hbx2 1
  have m2 : W2.cell? ⟨w.heap.size, 2, none⟩ = some (.int .i64 (n.b : Nat)) := cell_blk hbx2 2
  have HB2 := Lib.hid (hb1.trans (hb2.mono hb1.size))
  have hg0 : W2.heap[w.heap.size + 1]? = some (.cells (Array.replicate f.length (.bool false)) 4 (0, 0)) := by
    have e : W1.heap.size = w.heap.size + 1 := by rw [hW1]; simp
    rw [hW2, ← e]; exact heap_alloc_new _ _
  have HG := Lib.hid hg0
  have HB := Lib.hid (hb.below HB2.out)
  have hsz : W2.heap.size = w.heap.size + 2 := by rw [hW2, hW1]; simp
  have HSZ := Lib.hid hsz
  have HFL := Lib.hid (show (f.map Value.bool).length = Nat.min f.length f.length by rw [List.length_map]; exact (Nat.min_self _).symm)
  have HFL2 := Lib.hid hf
  have HB0 := Lib.hid hb
  have hfb : f.length ≤ 991 := by rw [hf]; omega
  obtain ⟨RES, hRES⟩ : ∃ RES, RES = endsR (.star x) ws f := ⟨_, rfl⟩
  have l3 : RES.length = f.length := by rw [hRES, ends_len ws _ f hf, hf]
  rw [← hRES]
  obtain ⟨CS, hCS⟩ : ∃ CS : Array Value, CS = #[.int .i64 3, .int .i64 (n.a : Nat), .int .i64 (n.b : Nat), .slice A' n.sp.length c', .bool n.neg] := ⟨_, rfl⟩
  have HX := Lib.hid (fun (B' : Option Addr) (c2 : Nat) (f' : List Bool) W (m : Below w.heap.size w W) (hb' : Rd W B' (f'.map Value.bool)) (hf' : f'.length = f.length) => hx n.a rx A B' ca c2 f' W (ht.below m) (ha.below m) hb' (hf'.trans hf))
  have HBX := Lib.hid hbx2
  have HEQ := Lib.hid (show rounds (endsR x ws) false (f.length + 1 - 0) f f = RES from hRES.symm)
  have HLN := Lib.hid (fun (g : List Bool) (hg : g.length = f.length) => (ends_len ws x g (hg.trans hf)).trans hf.symm)
  clear hbx hb1 hb2 hbx2 ht ha hb hg0 hsz hf hx rx hRES
  subst hW2; subst hW1
  go_enter Tryz.func87, Tryz.ntmps87
  go_wp2_with (first
    | (refine wpList_copy_mv (o := ⟨some 37, _, _, _, _, _⟩) ?_ (.tmp 35) (.tmp 36) 143 143 ?_ 4 Tryz.underlying143 info_bools1 (some ⟨w.heap.size + 1, 0, none⟩) B f.length f.length f.length cb ?_ ?_ (w.heap.size + 1) 0 _ 4 HG.out (f.map Value.bool) ?_ ?_ HB.out ?_ ?_ ?_; (rfl; rfl; rfl; rfl; exact HFL.out; (intro _; rfl); (rw [List.length_map, Array.size_replicate]; omega); (intro v hv; obtain ⟨x, _, rfl⟩ := List.mem_map.1 hv; rfl); intro w2 hg2 hm2 hs2; have HG2 := Lib.hid hg2; clear hg2))
    | fail)
  go_loopw [42, 15] (fun sk sn wr => ∃ (j : Nat) (AN : Option Addr) (cn : Nat) (oo nw : List Bool), sk = .int .i64 j ∧ sn = .slice AN f.length cn ∧ j ≤ f.length + 1 ∧ Aside (OutRel w #[.int .i64 3, .int .i64 (n.a : Nat), .int .i64 (n.b : Nat), .slice A' n.sp.length c', .bool n.neg] (endsR x ws) false f.length RES wr j AN oo nw)) (fun sk _ _ => f.length + 1 - (intOf sk).toNat)
  case atStart => exact ⟨0, B, cb, _, f, rfl, rfl, by omega, ⟨(by unfold BBlk; rw [HG2.out]; congr 2; simp [spl, splice, List.drop_eq_nil_of_le]), HB0.out.below (HB2.out.trans (hm2.belowB (by rw [HSZ.out]; omega) (fun k hk e => by omega))), rfl, rfl, ((hm2.block w.heap.size (by rw [HSZ.out]; omega) (fun e => by omega)).trans HBX.out), (HB2.out.trans (hm2.belowB (by rw [HSZ.out]; omega) (fun k hk e => by omega))), HEQ.out⟩⟩
  case round =>
    obtain ⟨j, AN, cn, oo, nw, rfl, rfl, hj, HK⟩ := hrel
    have p0 := cell_blk HK.out.box 0
    have p1 := cell_blk HK.out.box 1
    simp only [List.getElem?_toArray, List.getElem?_cons_succ, List.getElem?_cons_zero] at p0 p1
    have j0 : (0 : Int) ≤ (j : Int) := by omega
    by_cases hlt : j < f.length + 1
    · have j1 : (j : Int) < (f.length : Int) + 1 := by omega
      obtain ⟨nx, hnx⟩ : ∃ nx, nx = endsR x ws nw := ⟨_, rfl⟩
      have lnx : nx.length = f.length := by rw [hnx]; exact HLN.out nw HK.out.ln
      obtain ⟨fr, hfr⟩ : ∃ fr, fr = freshL nx oo := ⟨_, rfl⟩
      have lfr : fr.length = f.length := by rw [hfr, freshL_len (by rw [lnx, HK.out.lo]), HK.out.lo]
      have loo : oo.length = f.length := HK.out.lo
      have HXR := Lib.hid (by have h := HX.out AN cn nw wr HK.out.below HK.out.now HK.out.ln; rw [HK.out.ln, ← hnx] at h; exact h)
      have HNX := Lib.hid hnx; have HFR := Lib.hid hfr; have HLX := Lib.hid lnx; have HLR := Lib.hid lfr; have HLO := Lib.hid loo
      clear hnx hfr lnx lfr loo
      go_wp2_with (first
        | (go_at_call 87; (with_reducible refine HXR.out.mono ?_); rintro e w7 ⟨RN, c7, rfl, hge7, hr7, hb7⟩
           go_must (
           have p0' := cell_low p0 hb7
           have HR7 := Lib.hid hr7; have HB7 := Lib.hid hb7; have HGE7 := Lib.hid hge7
           have hmk7 := run_falses w7 f.length (by omega)
           have h9 : Below w7.heap.size w7 (w7.alloc (.cells (Array.replicate f.length (.bool false)) 4)) := (RowKit.Below.refl _ _).alloc (Nat.le_refl _) _
           have q1 := blk_lt HK.out.out
           have q2 := hb7.size
           have q3 := blk_lt hr7
           have HI0 := Lib.hid (show InRel w #[.int .i64 3, .int .i64 (n.a : Nat), .int .i64 (n.b : Nat), .slice A' n.sp.length c', .bool n.neg] w7.heap.size RN oo fr nx (w7.alloc (.cells (Array.replicate f.length (.bool false)) 4)) 0 from
             ⟨by rw [mix2_zero]; exact (HK.out.out.below hb7).below h9, by unfold BBlk; rw [mixB_zero, HLR.out, heap_alloc_new]; simp, hr7.below h9, (h9.block _ (by omega)).trans ((hb7.block _ (by omega)).trans HK.out.box),
               HK.out.below.trans ((hb7.mono HK.out.below.size).trans (h9.mono (by omega))), by omega, by omega, by omega⟩)
           clear h9 q1 q2 q3
           clear hb7 hr7 hge7))
        | fail)
      go_loopw [55, 18] (fun sk sa wi => ∃ k : Nat, sk = .int .i64 k ∧ sa = .bool ((fr.take k).any id) ∧ k ≤ f.length ∧ Aside (InRel w #[.int .i64 3, .int .i64 (n.a : Nat), .int .i64 (n.b : Nat), .slice A' n.sp.length c', .bool n.neg] w7.heap.size RN oo fr nx wi k)) (fun sk _ _ => f.length - (intOf sk).toNat)
      case atStart => exact ⟨0, rfl, by simp, by omega, HI0.out⟩
      case round =>
        obtain ⟨k, rfl, rfl, hk, HI⟩ := hrel
        have i0 : (0 : Int) ≤ (k : Int) := by omega
        by_cases hlk : k < f.length
        · have i1 : (k : Int) < (f.length : Int) := by omega
          have i2 : (k : Int) < (nx.length : Int) := by rw [HLX.out]; exact i1
          have kf : k < fr.length := by rw [HLR.out]; exact hlk
          have lfo : fr.length = oo.length := by rw [HLR.out, HLO.out]
          have lno : nx.length = oo.length := by rw [HLX.out, HLO.out]
          obtain ⟨e1, e2, ⟨u3, e3⟩, e4, e5⟩ := HI.out.cells lfo lno kf
          obtain ⟨g1, g2, g3, g4⟩ := HI.out.inner lfo kf
          have hfk : fr[k] = (nx[k]'(by omega) && !(oo[k]'(by omega))) := by
            have := HFR.out
            subst this
            simp [freshL]
          have HST := Lib.hid (fun y z h1 h2 => HI.out.step (y := y) (z := z) lfo kf h1 h2)
          have HAT := Lib.hid (any_take kf)
          rw [hfk] at HST HAT
          generalize nx[k]'(by omega) = bN at *
          generalize oo[k]'(by omega) = bO at *
          generalize (fr.take k).any id = an at *
          clear hfk
          cases bN <;> cases bO <;> cases an <;>
          (go_wp2
           go_roundw
           case rel => exact ⟨k + 1, by go_num, by simp [HAT.out], by omega, HST.out _ _ rfl rfl⟩
           case measure => simp [intOf]; omega)
        · obtain rfl : k = f.length := by omega
          have hall : fr.take f.length = fr := by rw [← HLR.out, List.take_length]
          have hE : freshL (endsR x ws nw) oo = fr := by rw [← HNX.out, ← HFR.out]
          have p0 := cell_blk HI.out.box 0
          simp only [List.getElem?_toArray, List.getElem?_cons_zero] at p0
          rw [hall]
          have HON := Lib.hid (fun (h : (false || !(fr.any id)) = true) => HK.out.once hlt (by rw [hE]; exact h))
          have HNE := Lib.hid (fun (h : (false || !(fr.any id)) = false) => HK.out.next hlt hE.symm HLR.out h HI.out)
          have HBW := Lib.hid HI.out.below
          have HRW := Lib.hid (show BBlk wr (w.heap.size + 1) (orL oo fr) by
            have h := HI.out.out
            have lo : (orL oo fr).length = f.length := by rw [orL_len (by rw [HLO.out, HLR.out]), HLO.out]
            rw [← lo, mix2_full (by rw [lo, HLO.out])] at h
            exact h)
          rw [hE] at HON
          clear hall hE
          generalize fr.any id = an at *
          cases an
          · have HX1 := Lib.hid (show BBlk wr (w.heap.size + 1) RES by rw [← HON.out rfl]; exact HRW.out)
            go_wp2
            go_ret
            exact ⟨w.heap.size + 1, f.length, by rw [l3]; rfl, by omega, HX1.out, HBW.out⟩
          · go_wp2
            go_roundw
            case rel => exact ⟨j + 1, some ⟨w7.heap.size, 0, none⟩, f.length, orL oo fr, fr, by go_num, rfl, by omega, HNE.out rfl⟩
            case measure => simp [intOf]; omega

    · obtain rfl : j = f.length + 1 := by omega
      have HX1 := Lib.hid (show BBlk wr (w.heap.size + 1) RES by rw [← HK.out.ended]; exact HK.out.out)
      have HX2 := Lib.hid HK.out.below
      go_wp2
      go_ret
      exact ⟨w.heap.size + 1, f.length, by rw [l3]; rfl, by omega, HX1.out, HX2.out⟩
theorem ends_plus (p : Nat) (N : List Nd) (ws : List Int) (hl : ws.length ≤ 990) (x : Re) (hx : EnC p N ws x) : EnC p N ws (.plus x) := by
  intro i hrep A B ca cb f w ht ha hb hf
  obtain ⟨n, hn, hk, _, rx⟩ := hrep
  obtain ⟨b, off, c, A', c', k3, n0, n1, n2, n3, n4, hsp, hsl⟩ := ht.node hn
  have hlt := (List.getElem?_eq_some_iff.mp hn).1
  have i1 : (i : Int) < (N.length : Int) := by omega
  have i0 : (0 : Int) ≤ (i : Int) := by omega
  rw [hk] at n0
  clear hsp hsl hn hk
  have hmk := fun u => run_falses u f.length (by omega)
  obtain ⟨W1, hW1⟩ : ∃ W1, W1 = w.alloc (.cells #[.int .i64 4, .int .i64 (n.a : Nat), .int .i64 (n.b : Nat), .slice A' n.sp.length c', .bool n.neg] 172) := ⟨_, rfl⟩
  obtain ⟨W2, hW2⟩ : ∃ W2, W2 = W1.alloc (.cells (Array.replicate f.length (.bool false)) 4) := ⟨_, rfl⟩
  have hbx : W1.heap[w.heap.size]? = some (.cells #[.int .i64 4, .int .i64 (n.a : Nat), .int .i64 (n.b : Nat), .slice A' n.sp.length c', .bool n.neg] 172 (0, 0)) := by rw [hW1]; exact heap_alloc_new _ _
  have hb1 : Below w.heap.size w W1 := by rw [hW1]; exact (RowKit.Below.refl _ w).alloc (Nat.le_refl _) _
  have hb2 : Below W1.heap.size W1 W2 := by rw [hW2]; exact (RowKit.Below.refl _ W1).alloc (Nat.le_refl _) _
  have hbx2 := (hb2.block _ (blk_lt hbx)).trans hbx
  have m0 : W2.cell? ⟨w.heap.size, 0, none⟩ = some (.int .i64 4) := cell_blk hbx2 0
  have m1 : W2.cell? ⟨w.heap.size, 1, none⟩ = some (.int .i64 (n.a : Nat)) := cell_blk hbx2 1
  have m2 : W2.cell? ⟨w.heap.size, 2, none⟩ = some (.int .i64 (n.b : Nat)) := cell_blk hbx2 2
  have HB2 := Lib.hid (hb1.trans (hb2.mono hb1.size))
  have hg0 : W2.heap[w.heap.size + 1]? = some (.cells (Array.replicate f.length (.bool false)) 4 (0, 0)) := by
    have e : W1.heap.size = w.heap.size + 1 := by rw [hW1]; simp
    rw [hW2, ← e]; exact heap_alloc_new _ _
  have HG := Lib.hid hg0
  have HB := Lib.hid (hb.below HB2.out)
  have hsz : W2.heap.size = w.heap.size + 2 := by rw [hW2, hW1]; simp
  have HSZ := Lib.hid hsz
  have HFL := Lib.hid (show (f.map Value.bool).length = Nat.min f.length f.length by rw [List.length_map]; exact (Nat.min_self _).symm)
  have HFL2 := Lib.hid hf
  have HB0 := Lib.hid hb
  have hfb : f.length ≤ 991 := by rw [hf]; omega
  obtain ⟨RES, hRES⟩ : ∃ RES, RES = endsR (.plus x) ws f := ⟨_, rfl⟩
  have l3 : RES.length = f.length := by rw [hRES, ends_len ws _ f hf, hf]
  rw [← hRES]
  obtain ⟨CS, hCS⟩ : ∃ CS : Array Value, CS = #[.int .i64 4, .int .i64 (n.a : Nat), .int .i64 (n.b : Nat), .slice A' n.sp.length c', .bool n.neg] := ⟨_, rfl⟩
  have HX := Lib.hid (fun (B' : Option Addr) (c2 : Nat) (f' : List Bool) W (m : Below w.heap.size w W) (hb' : Rd W B' (f'.map Value.bool)) (hf' : f'.length = f.length) => hx n.a rx A B' ca c2 f' W (ht.below m) (ha.below m) hb' (hf'.trans hf))
  have HBX := Lib.hid hbx2
  have HEQ := Lib.hid (show rounds (endsR x ws) false (f.length + 1 - 0) (List.replicate f.length false) f = RES from hRES.symm)
  have HLN := Lib.hid (fun (g : List Bool) (hg : g.length = f.length) => (ends_len ws x g (hg.trans hf)).trans hf.symm)
  clear hbx hb1 hb2 hbx2 ht ha hb hg0 hsz hf hx rx hRES
  subst hW2; subst hW1
  go_enter Tryz.func87, Tryz.ntmps87
  go_wp2
  go_loopw [42, 15] (fun sk sn wr => ∃ (j : Nat) (AN : Option Addr) (cn : Nat) (oo nw : List Bool), sk = .int .i64 j ∧ sn = .slice AN f.length cn ∧ j ≤ f.length + 1 ∧ Aside (OutRel w #[.int .i64 4, .int .i64 (n.a : Nat), .int .i64 (n.b : Nat), .slice A' n.sp.length c', .bool n.neg] (endsR x ws) false f.length RES wr j AN oo nw)) (fun sk _ _ => f.length + 1 - (intOf sk).toNat)
  case atStart => exact ⟨0, B, cb, _, f, rfl, rfl, by omega, ⟨(by unfold BBlk; rw [HG.out]; simp), HB0.out.below HB2.out, (by simp), rfl, HBX.out, HB2.out, HEQ.out⟩⟩
  case round =>
    obtain ⟨j, AN, cn, oo, nw, rfl, rfl, hj, HK⟩ := hrel
    have p0 := cell_blk HK.out.box 0
    have p1 := cell_blk HK.out.box 1
    simp only [List.getElem?_toArray, List.getElem?_cons_succ, List.getElem?_cons_zero] at p0 p1
    have j0 : (0 : Int) ≤ (j : Int) := by omega
    by_cases hlt : j < f.length + 1
    · have j1 : (j : Int) < (f.length : Int) + 1 := by omega
      obtain ⟨nx, hnx⟩ : ∃ nx, nx = endsR x ws nw := ⟨_, rfl⟩
      have lnx : nx.length = f.length := by rw [hnx]; exact HLN.out nw HK.out.ln
      obtain ⟨fr, hfr⟩ : ∃ fr, fr = freshL nx oo := ⟨_, rfl⟩
      have lfr : fr.length = f.length := by rw [hfr, freshL_len (by rw [lnx, HK.out.lo]), HK.out.lo]
      have loo : oo.length = f.length := HK.out.lo
      have HXR := Lib.hid (by have h := HX.out AN cn nw wr HK.out.below HK.out.now HK.out.ln; rw [HK.out.ln, ← hnx] at h; exact h)
      have HNX := Lib.hid hnx; have HFR := Lib.hid hfr; have HLX := Lib.hid lnx; have HLR := Lib.hid lfr; have HLO := Lib.hid loo
      clear hnx hfr lnx lfr loo
      go_wp2_with (first
        | (go_at_call 87; (with_reducible refine HXR.out.mono ?_); rintro e w7 ⟨RN, c7, rfl, hge7, hr7, hb7⟩
           go_must (
           have p0' := cell_low p0 hb7
           have HR7 := Lib.hid hr7; have HB7 := Lib.hid hb7; have HGE7 := Lib.hid hge7
           have hmk7 := run_falses w7 f.length (by omega)
           have h9 : Below w7.heap.size w7 (w7.alloc (.cells (Array.replicate f.length (.bool false)) 4)) := (RowKit.Below.refl _ _).alloc (Nat.le_refl _) _
           have q1 := blk_lt HK.out.out
           have q2 := hb7.size
           have q3 := blk_lt hr7
           have HI0 := Lib.hid (show InRel w #[.int .i64 4, .int .i64 (n.a : Nat), .int .i64 (n.b : Nat), .slice A' n.sp.length c', .bool n.neg] w7.heap.size RN oo fr nx (w7.alloc (.cells (Array.replicate f.length (.bool false)) 4)) 0 from
             ⟨by rw [mix2_zero]; exact (HK.out.out.below hb7).below h9, by unfold BBlk; rw [mixB_zero, HLR.out, heap_alloc_new]; simp, hr7.below h9, (h9.block _ (by omega)).trans ((hb7.block _ (by omega)).trans HK.out.box),
               HK.out.below.trans ((hb7.mono HK.out.below.size).trans (h9.mono (by omega))), by omega, by omega, by omega⟩)
           clear h9 q1 q2 q3
           clear hb7 hr7 hge7))
        | fail)
      go_loopw [55, 18] (fun sk sa wi => ∃ k : Nat, sk = .int .i64 k ∧ sa = .bool ((fr.take k).any id) ∧ k ≤ f.length ∧ Aside (InRel w #[.int .i64 4, .int .i64 (n.a : Nat), .int .i64 (n.b : Nat), .slice A' n.sp.length c', .bool n.neg] w7.heap.size RN oo fr nx wi k)) (fun sk _ _ => f.length - (intOf sk).toNat)
      case atStart => exact ⟨0, rfl, by simp, by omega, HI0.out⟩
      case round =>
        obtain ⟨k, rfl, rfl, hk, HI⟩ := hrel
        have i0 : (0 : Int) ≤ (k : Int) := by omega
        by_cases hlk : k < f.length
        · have i1 : (k : Int) < (f.length : Int) := by omega
          have i2 : (k : Int) < (nx.length : Int) := by rw [HLX.out]; exact i1
          have kf : k < fr.length := by rw [HLR.out]; exact hlk
          have lfo : fr.length = oo.length := by rw [HLR.out, HLO.out]
          have lno : nx.length = oo.length := by rw [HLX.out, HLO.out]
          obtain ⟨e1, e2, ⟨u3, e3⟩, e4, e5⟩ := HI.out.cells lfo lno kf
          obtain ⟨g1, g2, g3, g4⟩ := HI.out.inner lfo kf
          have hfk : fr[k] = (nx[k]'(by omega) && !(oo[k]'(by omega))) := by
            have := HFR.out
            subst this
            simp [freshL]
          have HST := Lib.hid (fun y z h1 h2 => HI.out.step (y := y) (z := z) lfo kf h1 h2)
          have HAT := Lib.hid (any_take kf)
          rw [hfk] at HST HAT
          generalize nx[k]'(by omega) = bN at *
          generalize oo[k]'(by omega) = bO at *
          generalize (fr.take k).any id = an at *
          clear hfk
          cases bN <;> cases bO <;> cases an <;>
          (go_wp2
           go_roundw
           case rel => exact ⟨k + 1, by go_num, by simp [HAT.out], by omega, HST.out _ _ rfl rfl⟩
           case measure => simp [intOf]; omega)
        · obtain rfl : k = f.length := by omega
          have hall : fr.take f.length = fr := by rw [← HLR.out, List.take_length]
          have hE : freshL (endsR x ws nw) oo = fr := by rw [← HNX.out, ← HFR.out]
          have p0 := cell_blk HI.out.box 0
          simp only [List.getElem?_toArray, List.getElem?_cons_zero] at p0
          rw [hall]
          have HON := Lib.hid (fun (h : (false || !(fr.any id)) = true) => HK.out.once hlt (by rw [hE]; exact h))
          have HNE := Lib.hid (fun (h : (false || !(fr.any id)) = false) => HK.out.next hlt hE.symm HLR.out h HI.out)
          have HBW := Lib.hid HI.out.below
          have HRW := Lib.hid (show BBlk wr (w.heap.size + 1) (orL oo fr) by
            have h := HI.out.out
            have lo : (orL oo fr).length = f.length := by rw [orL_len (by rw [HLO.out, HLR.out]), HLO.out]
            rw [← lo, mix2_full (by rw [lo, HLO.out])] at h
            exact h)
          rw [hE] at HON
          clear hall hE
          generalize fr.any id = an at *
          cases an
          · have HX1 := Lib.hid (show BBlk wr (w.heap.size + 1) RES by rw [← HON.out rfl]; exact HRW.out)
            go_wp2
            go_ret
            exact ⟨w.heap.size + 1, f.length, by rw [l3]; rfl, by omega, HX1.out, HBW.out⟩
          · go_wp2
            go_roundw
            case rel => exact ⟨j + 1, some ⟨w7.heap.size, 0, none⟩, f.length, orL oo fr, fr, by go_num, rfl, by omega, HNE.out rfl⟩
            case measure => simp [intOf]; omega

    · obtain rfl : j = f.length + 1 := by omega
      have HX1 := Lib.hid (show BBlk wr (w.heap.size + 1) RES by rw [← HK.out.ended]; exact HK.out.out)
      have HX2 := Lib.hid HK.out.below
      go_wp2
      go_ret
      exact ⟨w.heap.size + 1, f.length, by rw [l3]; rfl, by omega, HX1.out, HX2.out⟩
theorem ends_may (p : Nat) (N : List Nd) (ws : List Int) (hl : ws.length ≤ 990) (x : Re) (hx : EnC p N ws x) : EnC p N ws (.may x) := by
  intro i hrep A B ca cb f w ht ha hb hf
  obtain ⟨n, hn, hk, _, rx⟩ := hrep
  obtain ⟨b, off, c, A', c', k3, n0, n1, n2, n3, n4, hsp, hsl⟩ := ht.node hn
  have hlt := (List.getElem?_eq_some_iff.mp hn).1
  have i1 : (i : Int) < (N.length : Int) := by omega
  have i0 : (0 : Int) ≤ (i : Int) := by omega
  rw [hk] at n0
  clear hsp hsl hn hk
  have hmk := fun u => run_falses u f.length (by omega)
  obtain ⟨W1, hW1⟩ : ∃ W1, W1 = w.alloc (.cells #[.int .i64 5, .int .i64 (n.a : Nat), .int .i64 (n.b : Nat), .slice A' n.sp.length c', .bool n.neg] 172) := ⟨_, rfl⟩
  obtain ⟨W2, hW2⟩ : ∃ W2, W2 = W1.alloc (.cells (Array.replicate f.length (.bool false)) 4) := ⟨_, rfl⟩
  have hbx : W1.heap[w.heap.size]? = some (.cells #[.int .i64 5, .int .i64 (n.a : Nat), .int .i64 (n.b : Nat), .slice A' n.sp.length c', .bool n.neg] 172 (0, 0)) := by rw [hW1]; exact heap_alloc_new _ _
  have hb1 : Below w.heap.size w W1 := by rw [hW1]; exact (RowKit.Below.refl _ w).alloc (Nat.le_refl _) _
  have hb2 : Below W1.heap.size W1 W2 := by rw [hW2]; exact (RowKit.Below.refl _ W1).alloc (Nat.le_refl _) _
  have hbx2 := (hb2.block _ (blk_lt hbx)).trans hbx
  have m0 : W2.cell? ⟨w.heap.size, 0, none⟩ = some (.int .i64 5) := cell_blk hbx2 0
  have m1 : W2.cell? ⟨w.heap.size, 1, none⟩ = some (.int .i64 (n.a : Nat)) := cell_blk hbx2 1
  have m2 : W2.cell? ⟨w.heap.size, 2, none⟩ = some (.int .i64 (n.b : Nat)) := cell_blk hbx2 2
  have HB2 := Lib.hid (hb1.trans (hb2.mono hb1.size))
  have hg0 : W2.heap[w.heap.size + 1]? = some (.cells (Array.replicate f.length (.bool false)) 4 (0, 0)) := by
    have e : W1.heap.size = w.heap.size + 1 := by rw [hW1]; simp
    rw [hW2, ← e]; exact heap_alloc_new _ _
  have HG := Lib.hid hg0
  have HB := Lib.hid (hb.below HB2.out)
  have hsz : W2.heap.size = w.heap.size + 2 := by rw [hW2, hW1]; simp
  have HSZ := Lib.hid hsz
  have HFL := Lib.hid (show (f.map Value.bool).length = Nat.min f.length f.length by rw [List.length_map]; exact (Nat.min_self _).symm)
  have HFL2 := Lib.hid hf
  have HB0 := Lib.hid hb
  have hfb : f.length ≤ 991 := by rw [hf]; omega
  obtain ⟨RES, hRES⟩ : ∃ RES, RES = endsR (.may x) ws f := ⟨_, rfl⟩
  have l3 : RES.length = f.length := by rw [hRES, ends_len ws _ f hf, hf]
  rw [← hRES]
  obtain ⟨CS, hCS⟩ : ∃ CS : Array Value, CS = #[.int .i64 5, .int .i64 (n.a : Nat), .int .i64 (n.b : Nat), .slice A' n.sp.length c', .bool n.neg] := ⟨_, rfl⟩
  have HX := Lib.hid (fun (B' : Option Addr) (c2 : Nat) (f' : List Bool) W (m : Below w.heap.size w W) (hb' : Rd W B' (f'.map Value.bool)) (hf' : f'.length = f.length) => hx n.a rx A B' ca c2 f' W (ht.below m) (ha.below m) hb' (hf'.trans hf))
  have HBX := Lib.hid hbx2
  have HEQ := Lib.hid (show rounds (endsR x ws) true (f.length + 1 - 0) f f = RES from hRES.symm)
  have HLN := Lib.hid (fun (g : List Bool) (hg : g.length = f.length) => (ends_len ws x g (hg.trans hf)).trans hf.symm)
  clear hbx hb1 hb2 hbx2 ht ha hb hg0 hsz hf hx rx hRES
  subst hW2; subst hW1
  go_enter Tryz.func87, Tryz.ntmps87
  go_wp2_with (first
    | (refine wpList_copy_mv (o := ⟨some 37, _, _, _, _, _⟩) ?_ (.tmp 35) (.tmp 36) 143 143 ?_ 4 Tryz.underlying143 info_bools1 (some ⟨w.heap.size + 1, 0, none⟩) B f.length f.length f.length cb ?_ ?_ (w.heap.size + 1) 0 _ 4 HG.out (f.map Value.bool) ?_ ?_ HB.out ?_ ?_ ?_; (rfl; rfl; rfl; rfl; exact HFL.out; (intro _; rfl); (rw [List.length_map, Array.size_replicate]; omega); (intro v hv; obtain ⟨x, _, rfl⟩ := List.mem_map.1 hv; rfl); intro w2 hg2 hm2 hs2; have HG2 := Lib.hid hg2; clear hg2))
    | fail)
  go_loopw [42, 15] (fun sk sn wr => ∃ (j : Nat) (AN : Option Addr) (cn : Nat) (oo nw : List Bool), sk = .int .i64 j ∧ sn = .slice AN f.length cn ∧ j ≤ f.length + 1 ∧ Aside (OutRel w #[.int .i64 5, .int .i64 (n.a : Nat), .int .i64 (n.b : Nat), .slice A' n.sp.length c', .bool n.neg] (endsR x ws) true f.length RES wr j AN oo nw)) (fun sk _ _ => f.length + 1 - (intOf sk).toNat)
  case atStart => exact ⟨0, B, cb, _, f, rfl, rfl, by omega, ⟨(by unfold BBlk; rw [HG2.out]; congr 2; simp [spl, splice, List.drop_eq_nil_of_le]), HB0.out.below (HB2.out.trans (hm2.belowB (by rw [HSZ.out]; omega) (fun k hk e => by omega))), rfl, rfl, ((hm2.block w.heap.size (by rw [HSZ.out]; omega) (fun e => by omega)).trans HBX.out), (HB2.out.trans (hm2.belowB (by rw [HSZ.out]; omega) (fun k hk e => by omega))), HEQ.out⟩⟩
  case round =>
    obtain ⟨j, AN, cn, oo, nw, rfl, rfl, hj, HK⟩ := hrel
    have p0 := cell_blk HK.out.box 0
    have p1 := cell_blk HK.out.box 1
    simp only [List.getElem?_toArray, List.getElem?_cons_succ, List.getElem?_cons_zero] at p0 p1
    have j0 : (0 : Int) ≤ (j : Int) := by omega
    by_cases hlt : j < f.length + 1
    · have j1 : (j : Int) < (f.length : Int) + 1 := by omega
      obtain ⟨nx, hnx⟩ : ∃ nx, nx = endsR x ws nw := ⟨_, rfl⟩
      have lnx : nx.length = f.length := by rw [hnx]; exact HLN.out nw HK.out.ln
      obtain ⟨fr, hfr⟩ : ∃ fr, fr = freshL nx oo := ⟨_, rfl⟩
      have lfr : fr.length = f.length := by rw [hfr, freshL_len (by rw [lnx, HK.out.lo]), HK.out.lo]
      have loo : oo.length = f.length := HK.out.lo
      have HXR := Lib.hid (by have h := HX.out AN cn nw wr HK.out.below HK.out.now HK.out.ln; rw [HK.out.ln, ← hnx] at h; exact h)
      have HNX := Lib.hid hnx; have HFR := Lib.hid hfr; have HLX := Lib.hid lnx; have HLR := Lib.hid lfr; have HLO := Lib.hid loo
      clear hnx hfr lnx lfr loo
      go_wp2_with (first
        | (go_at_call 87; (with_reducible refine HXR.out.mono ?_); rintro e w7 ⟨RN, c7, rfl, hge7, hr7, hb7⟩
           go_must (
           have p0' := cell_low p0 hb7
           have HR7 := Lib.hid hr7; have HB7 := Lib.hid hb7; have HGE7 := Lib.hid hge7
           have hmk7 := run_falses w7 f.length (by omega)
           have h9 : Below w7.heap.size w7 (w7.alloc (.cells (Array.replicate f.length (.bool false)) 4)) := (RowKit.Below.refl _ _).alloc (Nat.le_refl _) _
           have q1 := blk_lt HK.out.out
           have q2 := hb7.size
           have q3 := blk_lt hr7
           have HI0 := Lib.hid (show InRel w #[.int .i64 5, .int .i64 (n.a : Nat), .int .i64 (n.b : Nat), .slice A' n.sp.length c', .bool n.neg] w7.heap.size RN oo fr nx (w7.alloc (.cells (Array.replicate f.length (.bool false)) 4)) 0 from
             ⟨by rw [mix2_zero]; exact (HK.out.out.below hb7).below h9, by unfold BBlk; rw [mixB_zero, HLR.out, heap_alloc_new]; simp, hr7.below h9, (h9.block _ (by omega)).trans ((hb7.block _ (by omega)).trans HK.out.box),
               HK.out.below.trans ((hb7.mono HK.out.below.size).trans (h9.mono (by omega))), by omega, by omega, by omega⟩)
           clear h9 q1 q2 q3
           clear hb7 hr7 hge7))
        | fail)
      go_loopw [55, 18] (fun sk sa wi => ∃ k : Nat, sk = .int .i64 k ∧ sa = .bool ((fr.take k).any id) ∧ k ≤ f.length ∧ Aside (InRel w #[.int .i64 5, .int .i64 (n.a : Nat), .int .i64 (n.b : Nat), .slice A' n.sp.length c', .bool n.neg] w7.heap.size RN oo fr nx wi k)) (fun sk _ _ => f.length - (intOf sk).toNat)
      case atStart => exact ⟨0, rfl, by simp, by omega, HI0.out⟩
      case round =>
        obtain ⟨k, rfl, rfl, hk, HI⟩ := hrel
        have i0 : (0 : Int) ≤ (k : Int) := by omega
        by_cases hlk : k < f.length
        · have i1 : (k : Int) < (f.length : Int) := by omega
          have i2 : (k : Int) < (nx.length : Int) := by rw [HLX.out]; exact i1
          have kf : k < fr.length := by rw [HLR.out]; exact hlk
          have lfo : fr.length = oo.length := by rw [HLR.out, HLO.out]
          have lno : nx.length = oo.length := by rw [HLX.out, HLO.out]
          obtain ⟨e1, e2, ⟨u3, e3⟩, e4, e5⟩ := HI.out.cells lfo lno kf
          obtain ⟨g1, g2, g3, g4⟩ := HI.out.inner lfo kf
          have hfk : fr[k] = (nx[k]'(by omega) && !(oo[k]'(by omega))) := by
            have := HFR.out
            subst this
            simp [freshL]
          have HST := Lib.hid (fun y z h1 h2 => HI.out.step (y := y) (z := z) lfo kf h1 h2)
          have HAT := Lib.hid (any_take kf)
          rw [hfk] at HST HAT
          generalize nx[k]'(by omega) = bN at *
          generalize oo[k]'(by omega) = bO at *
          generalize (fr.take k).any id = an at *
          clear hfk
          cases bN <;> cases bO <;> cases an <;>
          (go_wp2
           go_roundw
           case rel => exact ⟨k + 1, by go_num, by simp [HAT.out], by omega, HST.out _ _ rfl rfl⟩
           case measure => simp [intOf]; omega)
        · obtain rfl : k = f.length := by omega
          have hall : fr.take f.length = fr := by rw [← HLR.out, List.take_length]
          have hE : freshL (endsR x ws nw) oo = fr := by rw [← HNX.out, ← HFR.out]
          have p0 := cell_blk HI.out.box 0
          simp only [List.getElem?_toArray, List.getElem?_cons_zero] at p0
          rw [hall]
          have HON := Lib.hid (fun (h : (true || !(fr.any id)) = true) => HK.out.once hlt (by rw [hE]; exact h))
          have HNE := Lib.hid (fun (h : (true || !(fr.any id)) = false) => HK.out.next hlt hE.symm HLR.out h HI.out)
          have HBW := Lib.hid HI.out.below
          have HRW := Lib.hid (show BBlk wr (w.heap.size + 1) (orL oo fr) by
            have h := HI.out.out
            have lo : (orL oo fr).length = f.length := by rw [orL_len (by rw [HLO.out, HLR.out]), HLO.out]
            rw [← lo, mix2_full (by rw [lo, HLO.out])] at h
            exact h)
          rw [hE] at HON
          clear hall hE
          generalize fr.any id = an at *
          cases an
          · have HX1 := Lib.hid (show BBlk wr (w.heap.size + 1) RES by rw [← HON.out rfl]; exact HRW.out)
            go_wp2
            go_ret
            exact ⟨w.heap.size + 1, f.length, by rw [l3]; rfl, by omega, HX1.out, HBW.out⟩
          · have HX1 := Lib.hid (show BBlk wr (w.heap.size + 1) RES by rw [← HON.out rfl]; exact HRW.out)
            go_wp2
            go_ret
            exact ⟨w.heap.size + 1, f.length, by rw [l3]; rfl, by omega, HX1.out, HBW.out⟩

    · obtain rfl : j = f.length + 1 := by omega
      have HX1 := Lib.hid (show BBlk wr (w.heap.size + 1) RES by rw [← HK.out.ended]; exact HK.out.out)
      have HX2 := Lib.hid HK.out.below
      go_wp2
      go_ret
      exact ⟨w.heap.size + 1, f.length, by rw [l3]; rfl, by omega, HX1.out, HX2.out⟩
end
end
section
open Go.RowKit
theorem ends_any (p : Nat) (N : List Nd) (ws : List Int) (hl : ws.length ≤ 990) : ∀ r : Re, EnC p N ws r
  | .set sp neg => ends_set p N ws hl sp neg
  | .none => ends_none p N ws hl
  | .cat x y => ends_cat p N ws hl x y (ends_any p N ws hl x) (ends_any p N ws hl y)
  | .alt x y => ends_alt p N ws hl x y (ends_any p N ws hl x) (ends_any p N ws hl y)
  | .star x => ends_star p N ws hl x (ends_any p N ws hl x)
  | .plus x => ends_plus p N ws hl x (ends_any p N ws hl x)
  | .may x => ends_may p N ws hl x (ends_any p N ws hl x)
#print axioms ends_any
end
section
set_option linter.unusedVariables false
set_option linter.unusedSimpArgs false
open Go.RowKit
theorem RxI.tr {w : World} {p : Nat} {t : Re} (h : RxI w p t) : ∃ (N : List Nd) (top : Nat), TrI w p N ∧ Rep N top t ∧ w.cell? ⟨p, 4, none⟩ = some (.int .i64 (top : Nat)) := by
  obtain ⟨E, i, v, us, N, top, s, size, plain, bad, d, hb, hn, hr, hl⟩ := h
  obtain ⟨A, cap, hv, hrd, -, -⟩ := own_rdg hn.row
  subst hv
  refine ⟨N, top, ⟨us, A, cap, cell_blk hb 3, hn.len, hrd, fun i u a hu ha => ?_⟩, hr, cell_blk hb 4⟩
  obtain ⟨A', c', hu', hrd', h1, h2⟩ := own_rdg (hn.sp i u a hu ha)
  unfold maxLen at h2
  exact ⟨A', c', hu', hrd', by omega⟩
section
set_option maxHeartbeats 3200000
set_option maxRecDepth 100000
theorem rmatch_any (p : Nat) (t : Re) (s : ByteArray) (w : World) (h : RxI w p t) (hs : s.size ≤ 900) :
    Calls Tryz.prog 74 #[.pointer (some ⟨p, 3, none⟩), .string s] w fun e w' => e = .returned (.bool (matchP (compP t []).1 (compP t []).2 (runesB (bl s)))) ∧ RowKit.Below w.heap.size w w' := by
  have hru := rrunes_any s w (by omega)
  obtain ⟨ws, hws⟩ : ∃ ws, ws = runesB (bl s) := ⟨_, rfl⟩
  rw [← hws] at hru ⊢
  obtain ⟨RES, hRES⟩ : ∃ RES, RES = matchP (compP t []).1 (compP t []).2 ws := ⟨_, rfl⟩
  rw [← hRES]
  have HRES := Lib.hid hRES; clear hRES
  have HRU := Lib.hid hru; have HI := Lib.hid h
  clear hru hws
  go_enter Tryz.func74, Tryz.ntmps74
  go_wp2_with fail
  refine HRU.out.mono ?_
  rintro e w1 ⟨A, c, rfl, hrd, hlen, hb1⟩
  have hn : ws.length ≤ 900 := by omega
  obtain ⟨N, top, htr, hrep, htop⟩ := (HI.out.below hb1).tr
  obtain ⟨g, hg⟩ : ∃ g, g = w1.heap.size := ⟨_, rfl⟩
  obtain ⟨W2, hW2⟩ : ∃ W2, W2 = w1.alloc (.cells (Array.replicate (ws.length + 1) (.bool false)) 4) := ⟨_, rfl⟩
  have hmk := run_falses w1 (ws.length + 1) (by omega)
  rw [← hW2, ← hg, show ((ws.length + 1 : Nat) : Int) = (ws.length : Int) + 1 by omega] at hmk
  have hbb : BBlk W2 g (List.replicate (ws.length + 1) false) := by
    unfold BBlk
    rw [hW2, hg, heap_alloc_new]
    simp
  have hb2 : RowKit.Below w1.heap.size w1 W2 := by rw [hW2]; exact (RowKit.Below.refl _ w1).alloc (Nat.le_refl _) _
  have z0 : W2.cell? ⟨g, 0, none⟩ = some (.bool false) := by rw [hbb.cell]; simp
  have z1 : W2.frozen? ⟨g, 0, none⟩ = false := free_blk hbb 0
  have hbb3 := hbb.set (k := 0) true
  have hf : (List.replicate (ws.length + 1) false).set 0 true = true :: List.replicate ws.length false := rfl
  rw [hf] at hbb3
  have hb3 : RowKit.Below w1.heap.size w1 (W2.setCell ⟨g, 0, none⟩ (.bool true)) := hb2.setCell (p := ⟨g, 0, none⟩) (by rw [hg]; exact Nat.le_refl _) _
  have t4 := cell_low htop hb3
  have hen := ends_any p N ws (by omega) t top hrep A (some ⟨g, 0, none⟩) c (ws.length + 1) (true :: List.replicate ws.length false) (W2.setCell ⟨g, 0, none⟩ (.bool true)) (htr.below hb3) (hrd.below hb3) hbb3.rd (by simp)
  rw [show (true :: List.replicate ws.length false).length = ws.length + 1 by simp] at hen
  have hel : (endsR t ws (true :: List.replicate ws.length false)).length = ws.length + 1 := ends_len ws t _ (by simp)
  have hem := ends_match t ws
  have HEN := Lib.hid hen; have HB3 := Lib.hid (hb1.trans (hb3.mono hb1.size)); have HEL := Lib.hid hel; have HEM := Lib.hid hem; have HBB3 := Lib.hid hbb3
  have q1 : IntKind.i64.wrap ((ws.length : Int) + 1) = (ws.length : Int) + 1 := IntWalk.i64_in _ (by omega)
  have n0 : (0 : Int) < (ws.length : Int) + 1 := by omega
  clear hen hb3 hel hem hbb3 hbb hb2 htr hrep htop hrd hlen hf hW2
  subst hg
  go_wp2_with fail
  refine HEN.out.mono ?_
  rintro e w4 ⟨R, c4, rfl, hR, hbR, hb4⟩
  have hcell := hbR.cell (k := ws.length)
  rw [List.getElem?_map] at hcell
  have hget : (endsR t ws (true :: List.replicate ws.length false))[ws.length]? = some (bAt (endsR t ws (true :: List.replicate ws.length false)) ws.length) := by
    have hi : ws.length < (endsR t ws (true :: List.replicate ws.length false)).length := by rw [HEL.out]; omega
    show _ = some ((endsR t ws (true :: List.replicate ws.length false)).getD ws.length false)
    rw [List.getD_eq_getElem?_getD, List.getElem?_eq_getElem hi]
    rfl
  rw [hget] at hcell
  have hres : bAt (endsR t ws (true :: List.replicate ws.length false)) ws.length = RES := by
    rw [HRES.out, Bool.eq_iff_iff, HEM.out, match_iff]
  rw [hres, Option.map_some] at hcell
  rw [HEL.out]
  have HB4 := Lib.hid (HB3.out.trans (hb4.mono HB3.out.size))
  have l0 : (0 : Int) ≤ (ws.length : Int) := by omega
  have l1 : (ws.length : Int) < (ws.length : Int) + 1 := by omega
  clear hget hres hb4 hbR z0 z1 t4 hmk
  go_wp2
  go_ret
  exact ⟨rfl, HB4.out⟩
end
end
end Go.Proofs.YtinjdlplbficiaaGreatDoor
