/-
  PointsPartly (P9.7): up to a write, within a range and within a window, a merge is the merge of both. No condition.
-/
import Derived.Deep.RegionHeld3
import Derived.Test.YtfohmepjedehfabPv
import Derived.Test.YtfohmepjedehfabPt8
import Derived.Test.YtfohmepjedehfabPta
import Derived.Test.YtfohmepjedehfabPtc
namespace Go.Proofs.Ytfohmepjedehfab
set_option linter.unusedVariables false
set_option linter.unusedSimpArgs false
open Go.ChangeShapes Go.WideShapes Go.ChangeAt Go.RowKit
/-- What is asked of a list. -/
structure Ak where
  lo : Int
  hi : Int
  t : Int
  width : Int
  back : Int
  seq : Int
def boxAk (x : Ak) : Array Value := #[.int .i64 x.lo, .int .i64 x.hi, .int .i64 x.t, .int .u64 x.width, .int .u64 x.back, .int .u64 x.seq]
set_option maxRecDepth 100000 in
theorem open_ask {H : Type} {enc : TypeId × Value → H} {W : World} {r : Reach} {b0 : Nat} {v : Value} {d : DataW H} {ps : List MemPlace}
    (hval : Value.okWide Try.prog W r b0 37 v) (h : DataW.Trod enc Try.prog W 0 (fun _ => true) true 37 v d ps) :
    ∃ x : Ak, v = .agg #[.int .i64 x.lo, .int .i64 x.hi, .int .i64 x.t, .int .u64 x.width, .int .u64 x.back, .int .u64 x.seq] := by
  obtain ⟨cs, rfl, hsz⟩ := okWide_struct Try.underlying37 hval
  have h6 : cs.size = 6 := hsz.trans (by kernel_rfl)
  obtain ⟨v0, v1, v2, v3, v4, v5, rfl⟩ : ∃ v0 v1 v2 v3 v4 v5, cs = #[v0, v1, v2, v3, v4, v5] := by
    obtain ⟨l⟩ := cs
    match l, h6 with
    | [a, b, c, d, e, f], _ => exact ⟨a, b, c, d, e, f, rfl⟩
  obtain ⟨fuel, hf⟩ := h
  obtain ⟨xs, n, _, _, _, hxl, hF⟩ := DataW.trod_struct Try.underlying37 hf
  match xs, hxl with
  | [y0, y1, y2, y3, y4, y5], _ =>
    have g0 := hF 0 _ rfl
    have g1 := hF 1 _ rfl
    have g2 := hF 2 _ rfl
    have g3 := hF 3 _ rfl
    have g4 := hF 4 _ rfl
    have g5 := hF 5 _ rfl
    rw [show Try.prog.cellsOf _ = 1 from by kernel_rfl] at g0 g1 g2 g3 g4 g5
    simp [Value.cells] at g0 g1 g2 g3 g4 g5
    obtain ⟨n0, e0, _, _⟩ := DataW.trod_int Try.underlying2 g0
    obtain ⟨n1, e1, _, _⟩ := DataW.trod_int Try.underlying2 g1
    obtain ⟨n2, e2, _, _⟩ := DataW.trod_int Try.underlying2 g2
    obtain ⟨n3, e3, _, _⟩ := DataW.trod_int Try.underlying23 g3
    obtain ⟨n4, e4, _, _⟩ := DataW.trod_int Try.underlying23 g4
    obtain ⟨n5, e5, _, _⟩ := DataW.trod_int Try.underlying23 g5
    simp at e0 e1 e2 e3 e4 e5
    exact ⟨⟨n0, n1, n2, n3, n4, n5⟩, by rw [e0, e1, e2, e3, e4, e5]⟩
theorem own_len_pt {w : World} {B n c : Nat} {A : Option Addr} {xs : List Value} (h : w.ownsRow B 25 3 (.slice A n c) n xs) : n ≤ c := by
  rcases h.2 with ⟨h1, h2⟩ | ⟨g', cap', cur, e, hB, hg, hnc, hcm, hcs, htk⟩
  · omega
  · injection e with e1 e2 e3; omega
theorem own_rd_of {w : World} {B n c : Nat} {A : Option Addr} {l : List Pt} (h : w.ownsRow B 25 3 (.slice A n c) n (pcells l)) (hn : l.length = n) : Rd w A (pcells l) := by
  subst hn
  obtain ⟨A', c', e, h1, -, -⟩ := own_rd_pt h
  injection e with e1 e2 e3
  rw [e1]; exact h1
theorem merge_oks {a b : List Pt} (ha : rightB a = true) (hb : rightB b = true) : mergeP a b = (mergeL a b, 0) := by
  unfold mergeP; rw [if_neg (by rw [ha, hb]; simp)]
/-- Parts of two lists merged: part of the merge. -/
theorem merge_parts {a b : List Pt} (ha : rightB a = true) (hb : rightB b = true) (f : Pt → Bool) (hf : ∀ p q : Pt, q.1 = p.1 → aheadB q p = true → f p = true → f q = true) : mergeP (a.filter f) (b.filter f) = ((mergeL a b).filter f, 0) := by
  rw [merge_oks (right_filter ha f) (right_filter hb f), merge_filter ((right_iff a).1 ha).2.2 ((right_iff b).1 hb).2.2 f hf]

section
set_option maxHeartbeats 3200000
set_option maxRecDepth 100000
theorem pointsPartly_in (A B : Option Addr) (ca cb : Nat) (a b : List Pt) (x : Ak) (w : World) (hA : Rd w A (pcells a)) (hB : Rd w B (pcells b)) (hca : a.length ≤ ca) (hcb : b.length ≤ cb) (la : a.length ≤ 400) (lb : b.length ≤ 400) (ra : rightB a = true) (rb : rightB b = true) :
    Calls Try.prog 5 #[.slice A a.length ca, .slice B b.length cb, .agg #[.int .i64 x.lo, .int .i64 x.hi, .int .i64 x.t, .int .u64 x.width, .int .u64 x.back, .int .u64 x.seq]] w fun e w' => e = .returned (.bool true) ∧ RowKit.Below w.heap.size w w' := by
  obtain ⟨W, hW⟩ : ∃ W, W = w.alloc (.cells (boxAk x) 37) := ⟨_, rfl⟩
  have hbw : RowKit.Below w.heap.size w W := by rw [hW]; exact (RowKit.Below.refl _ w).alloc (Nat.le_refl _) _
  have hbx : W.heap[w.heap.size]? = some (.cells (boxAk x) 37 (0, 0)) := by rw [hW]; exact heap_alloc_new _ _
  have hsW := hbw.size
  have HA := Lib.hid (hA.below hbw); have HB := Lib.hid (hB.below hbw); have HBW := Lib.hid hbw; have HBX := Lib.hid hbx
  have HX := Lib.hid (show ∀ W', RowKit.Below W.heap.size W W' → W'.cell? ⟨w.heap.size, 0, none⟩ = some (.int .i64 x.lo) ∧ W'.cell? ⟨w.heap.size, 1, none⟩ = some (.int .i64 x.hi) ∧ W'.cell? ⟨w.heap.size, 2, none⟩ = some (.int .i64 x.t) ∧ W'.cell? ⟨w.heap.size, 3, none⟩ = some (.int .u64 x.width) ∧ W'.cell? ⟨w.heap.size, 4, none⟩ = some (.int .u64 x.back) ∧ W'.cell? ⟨w.heap.size, 5, none⟩ = some (.int .u64 x.seq) from fun W' hb => by
    have h := (hb.block _ (blk_lt HBX.out)).trans HBX.out
    exact ⟨cell_blk h 0, cell_blk h 1, cell_blk h 2, cell_blk h 3, cell_blk h 4, cell_blk h 5⟩)
  have HLV := Lib.hid live_any
  have HFA := Lib.hid (fun w => few_any A ca a w); have HFB := Lib.hid (fun w => few_any B cb b w)
  rw [decide_eq_true la] at HFA; rw [decide_eq_true lb] at HFB
  have HGA := Lib.hid (fun (W' : World) (hb : RowKit.Below W.heap.size W W') => right_any A ca a W' (HA.out.below hb) (by omega))
  have HGB := Lib.hid (fun (W' : World) (hb : RowKit.Below W.heap.size W W') => right_any B cb b W' (HB.out.below hb) (by omega))
  rw [ra] at HGA; rw [rb] at HGB
  have HM := Lib.hid (fun (W' : World) (hb : RowKit.Below W.heap.size W W') => merge_any A B ca cb a b W' (HA.out.below hb) (HB.out.below hb) hca hcb (by omega) (by omega))
  rw [merge_oks ra rb] at HM
  unfold MergeOut at HM
  simp only at HM
  have lm := merge_len a b
  have HUA := Lib.hid (fun (W' : World) (hb : RowKit.Below W.heap.size W W') => upto_any A ca a x.seq W' (HA.out.below hb) (by omega))
  have HUB := Lib.hid (fun (W' : World) (hb : RowKit.Below W.heap.size W W') => upto_any B cb b x.seq W' (HB.out.below hb) (by omega))
  have HUM := Lib.hid (fun (W' : World) (X Y : Option Addr) (cx cy : Nat) (h1 : Rd W' X (pcells (a.filter (uptoB x.seq)))) (h2 : Rd W' Y (pcells (b.filter (uptoB x.seq)))) (k1 : (a.filter (uptoB x.seq)).length ≤ cx) (k2 : (b.filter (uptoB x.seq)).length ≤ cy) => merge_any X Y cx cy (a.filter (uptoB x.seq)) (b.filter (uptoB x.seq)) W' h1 h2 k1 k2 (Nat.le_trans (List.length_filter_le _ _) (by omega)) (Nat.le_trans (List.length_filter_le _ _) (by omega)))
  rw [merge_parts ra rb (uptoB x.seq) (upto_kept x.seq)] at HUM
  unfold MergeOut at HUM
  simp only at HUM
  have LUA := Lib.hid (List.length_filter_le (uptoB x.seq) a)
  have HUS := Lib.hid (fun (W' : World) (X : Option Addr) (cx : Nat) (h1 : Rd W' X (pcells (mergeL a b))) => upto_any X cx (mergeL a b) x.seq W' h1 (by omega))
  have lU := List.length_filter_le (uptoB x.seq) (mergeL a b)
  generalize a.filter (uptoB x.seq) = aU at HUA HUM LUA
  generalize b.filter (uptoB x.seq) = bU at HUB HUM
  generalize (mergeL a b).filter (uptoB x.seq) = mU at HUM HUS lU
  have HRA := Lib.hid (fun (W' : World) (hb : RowKit.Below W.heap.size W W') => range_any A ca a x.lo x.hi W' (HA.out.below hb) (by omega))
  have HRB := Lib.hid (fun (W' : World) (hb : RowKit.Below W.heap.size W W') => range_any B cb b x.lo x.hi W' (HB.out.below hb) (by omega))
  have HRM := Lib.hid (fun (W' : World) (X Y : Option Addr) (cx cy : Nat) (h1 : Rd W' X (pcells (a.filter (rangeB x.lo x.hi)))) (h2 : Rd W' Y (pcells (b.filter (rangeB x.lo x.hi)))) (k1 : (a.filter (rangeB x.lo x.hi)).length ≤ cx) (k2 : (b.filter (rangeB x.lo x.hi)).length ≤ cy) => merge_any X Y cx cy (a.filter (rangeB x.lo x.hi)) (b.filter (rangeB x.lo x.hi)) W' h1 h2 k1 k2 (Nat.le_trans (List.length_filter_le _ _) (by omega)) (Nat.le_trans (List.length_filter_le _ _) (by omega)))
  rw [merge_parts ra rb (rangeB x.lo x.hi) (range_kept x.lo x.hi)] at HRM
  unfold MergeOut at HRM
  simp only at HRM
  have LRA := Lib.hid (List.length_filter_le (rangeB x.lo x.hi) a)
  have HRS := Lib.hid (fun (W' : World) (X : Option Addr) (cx : Nat) (h1 : Rd W' X (pcells (mergeL a b))) => range_any X cx (mergeL a b) x.lo x.hi W' h1 (by omega))
  have lR := List.length_filter_le (rangeB x.lo x.hi) (mergeL a b)
  generalize a.filter (rangeB x.lo x.hi) = aR at HRA HRM LRA
  generalize b.filter (rangeB x.lo x.hi) = bR at HRB HRM
  generalize (mergeL a b).filter (rangeB x.lo x.hi) = mR at HRM HRS lR
  have HNA := Lib.hid (fun (W' : World) (hb : RowKit.Below W.heap.size W W') => win_any A ca a x.t x.width W' (HA.out.below hb) (by omega))
  have HNB := Lib.hid (fun (W' : World) (hb : RowKit.Below W.heap.size W W') => win_any B cb b x.t x.width W' (HB.out.below hb) (by omega))
  have HNM := Lib.hid (fun (W' : World) (X Y : Option Addr) (cx cy : Nat) (h1 : Rd W' X (pcells (a.filter (nearB x.t x.width)))) (h2 : Rd W' Y (pcells (b.filter (nearB x.t x.width)))) (k1 : (a.filter (nearB x.t x.width)).length ≤ cx) (k2 : (b.filter (nearB x.t x.width)).length ≤ cy) => merge_any X Y cx cy (a.filter (nearB x.t x.width)) (b.filter (nearB x.t x.width)) W' h1 h2 k1 k2 (Nat.le_trans (List.length_filter_le _ _) (by omega)) (Nat.le_trans (List.length_filter_le _ _) (by omega)))
  rw [merge_parts ra rb (nearB x.t x.width) (near_kept x.t x.width)] at HNM
  unfold MergeOut at HNM
  simp only at HNM
  have LNA := Lib.hid (List.length_filter_le (nearB x.t x.width) a)
  have HNS := Lib.hid (fun (W' : World) (X : Option Addr) (cx : Nat) (h1 : Rd W' X (pcells (mergeL a b))) => win_any X cx (mergeL a b) x.t x.width W' h1 (by omega))
  have lN := List.length_filter_le (nearB x.t x.width) (mergeL a b)
  generalize a.filter (nearB x.t x.width) = aN at HNA HNM LNA
  generalize b.filter (nearB x.t x.width) = bN at HNB HNM
  generalize (mergeL a b).filter (nearB x.t x.width) = mN at HNM HNS lN
  generalize mergeL a b = m at *
  unfold boxAk at hW
  have HW := Lib.hid hW
  have HBc := Lib.hid (RowKit.Below.refl W.heap.size W)
  clear hA hB hbw hbx hW ra rb
  go_enter Try.func5, Try.ntmps5
  go_wp2_with fail
  rw [← HW.out]
  go_wp2_with fail
  refine (HLV.out _).mono ?_
  rintro e w1 ⟨rfl, hbq⟩
  have hq1 := HBc.out.trans (hbq.mono HBc.out.size); have HBc := Lib.hid hq1; clear hq1 hbq
  go_wp2_with fail
  refine (HFA.out _).mono ?_
  rintro e w2 ⟨rfl, rfl⟩
  go_wp2_with fail
  refine (HFB.out _).mono ?_
  rintro e w3 ⟨rfl, rfl⟩
  go_wp2_with fail
  refine (HGA.out _ HBc.out).mono ?_
  rintro e w4 ⟨rfl, hbq⟩
  have hq1 := HBc.out.trans (hbq.mono HBc.out.size); have HBc := Lib.hid hq1; clear hq1 hbq
  go_wp2_with fail
  refine (HGB.out _ HBc.out).mono ?_
  rintro e w5 ⟨rfl, hbq⟩
  have hq1 := HBc.out.trans (hbq.mono HBc.out.size); have HBc := Lib.hid hq1; clear hq1 hbq
  go_wp2_with fail
  refine (HM.out _ HBc.out).mono ?_
  rintro e w6 ⟨AM, cM, rfl, kM, ho, hbq⟩
  have OM := Lib.hid (ho.lower HBc.out.size); clear ho
  have hq1 := HBc.out.trans (hbq.mono HBc.out.size); have HBc := Lib.hid hq1; clear hq1 hbq
  have HSU := Lib.hid (show ∀ W', RowKit.Below W.heap.size W W' → W'.cell? ⟨w.heap.size, 5, none⟩ = some (.int .u64 x.seq) from fun W' hb => by
    obtain ⟨-, -, -, -, -, h5⟩ := HX.out W' hb
    exact h5)
  try clear OA OB
  go_wp2_with fail
  go_region_held3 (fun W' => W'.cell? ⟨w.heap.size, 5, none⟩ = some (.int .u64 x.seq)) (first | exact HSU.out _ HBc.out | exact HSU.out _ (below_drewN HBc.out _)) (first
    | (go_at_call 18; (with_reducible refine (HUA.out _ ?_).mono ?_); (focus (first | exact HBc.out | exact below_drewN HBc.out _)); go_must (rintro e wq ⟨AA, cA, rfl, ho, hbq⟩; have hq0 := ho.lower HBc.out.size; (try (have hq1 := undrewQ hbq; clear hbq; have hbq := hq1; clear hq1)); (try (have hq1 := own_below_pt OM.out hbq; have OM := Lib.hid hq1; clear hq1)); (try (have hq1 := own_below_pt OU.out hbq; have OU := Lib.hid hq1; clear hq1)); (try (have hq1 := own_below_pt OV.out hbq; have OV := Lib.hid hq1; clear hq1)); (try (have hq1 := own_below_pt OA.out hbq; have OA := Lib.hid hq1; clear hq1)); (try (have hq1 := own_below_pt OB.out hbq; have OB := Lib.hid hq1; clear hq1)); have hq1 := HBc.out.trans (hbq.mono HBc.out.size); have HBc := Lib.hid hq1; clear hq1 hbq; have OA := Lib.hid hq0; clear hq0 ho))
    | (go_at_call 18; (with_reducible refine (HUB.out _ ?_).mono ?_); (focus (first | exact HBc.out | exact below_drewN HBc.out _)); go_must (rintro e wq ⟨AB, cB, rfl, ho, hbq⟩; have hq0 := ho.lower HBc.out.size; (try (have hq1 := undrewQ hbq; clear hbq; have hbq := hq1; clear hq1)); (try (have hq1 := own_below_pt OM.out hbq; have OM := Lib.hid hq1; clear hq1)); (try (have hq1 := own_below_pt OU.out hbq; have OU := Lib.hid hq1; clear hq1)); (try (have hq1 := own_below_pt OV.out hbq; have OV := Lib.hid hq1; clear hq1)); (try (have hq1 := own_below_pt OA.out hbq; have OA := Lib.hid hq1; clear hq1)); (try (have hq1 := own_below_pt OB.out hbq; have OB := Lib.hid hq1; clear hq1)); have hq1 := HBc.out.trans (hbq.mono HBc.out.size); have HBc := Lib.hid hq1; clear hq1 hbq; have OB := Lib.hid hq0; clear hq0 ho))
    | (go_at_call 22; (with_reducible refine (HUM.out _ AA AB cA cB ?_ ?_ ?_ ?_).mono ?_); (focus (exact own_rd_of OA.out rfl)); (focus (exact own_rd_of OB.out rfl)); (focus (exact own_len_pt OA.out)); (focus (exact own_len_pt OB.out)); go_must (rintro e wq ⟨AU, cU, rfl, kU, ho, hbq⟩; have hq0 := ho.lower HBc.out.size; (try (have hq1 := undrewQ hbq; clear hbq; have hbq := hq1; clear hq1)); (try (have hq1 := own_below_pt OM.out hbq; have OM := Lib.hid hq1; clear hq1)); (try (have hq1 := own_below_pt OU.out hbq; have OU := Lib.hid hq1; clear hq1)); (try (have hq1 := own_below_pt OV.out hbq; have OV := Lib.hid hq1; clear hq1)); (try (have hq1 := own_below_pt OA.out hbq; have OA := Lib.hid hq1; clear hq1)); (try (have hq1 := own_below_pt OB.out hbq; have OB := Lib.hid hq1; clear hq1)); have hq1 := HBc.out.trans (hbq.mono HBc.out.size); have HBc := Lib.hid hq1; clear hq1 hbq; have OU := Lib.hid hq0; clear hq0 ho))
    | fail)
  have HSR := Lib.hid (show ∀ W', RowKit.Below W.heap.size W W' → W'.cell? ⟨w.heap.size, 0, none⟩ = some (.int .i64 x.lo) ∧ W'.cell? ⟨w.heap.size, 1, none⟩ = some (.int .i64 x.hi) from fun W' hb => by
    obtain ⟨h0, h1, -, -, -, -⟩ := HX.out W' hb
    exact ⟨h0, h1⟩)
  try clear OA OB
  go_wp2_with fail
  go_region_held3 (fun W' => W'.cell? ⟨w.heap.size, 0, none⟩ = some (.int .i64 x.lo) ∧ W'.cell? ⟨w.heap.size, 1, none⟩ = some (.int .i64 x.hi)) (first | exact HSR.out _ HBc.out | exact HSR.out _ (below_drewN HBc.out _)) (first
    | (go_at_call 16; (with_reducible refine (HRA.out _ ?_).mono ?_); (focus (first | exact HBc.out | exact below_drewN HBc.out _)); go_must (rintro e wq ⟨AA, cA, rfl, ho, hbq⟩; have hq0 := ho.lower HBc.out.size; (try (have hq1 := undrewQ hbq; clear hbq; have hbq := hq1; clear hq1)); (try (have hq1 := own_below_pt OM.out hbq; have OM := Lib.hid hq1; clear hq1)); (try (have hq1 := own_below_pt OU.out hbq; have OU := Lib.hid hq1; clear hq1)); (try (have hq1 := own_below_pt OV.out hbq; have OV := Lib.hid hq1; clear hq1)); (try (have hq1 := own_below_pt OA.out hbq; have OA := Lib.hid hq1; clear hq1)); (try (have hq1 := own_below_pt OB.out hbq; have OB := Lib.hid hq1; clear hq1)); have hq1 := HBc.out.trans (hbq.mono HBc.out.size); have HBc := Lib.hid hq1; clear hq1 hbq; have OA := Lib.hid hq0; clear hq0 ho))
    | (go_at_call 16; (with_reducible refine (HRB.out _ ?_).mono ?_); (focus (first | exact HBc.out | exact below_drewN HBc.out _)); go_must (rintro e wq ⟨AB, cB, rfl, ho, hbq⟩; have hq0 := ho.lower HBc.out.size; (try (have hq1 := undrewQ hbq; clear hbq; have hbq := hq1; clear hq1)); (try (have hq1 := own_below_pt OM.out hbq; have OM := Lib.hid hq1; clear hq1)); (try (have hq1 := own_below_pt OU.out hbq; have OU := Lib.hid hq1; clear hq1)); (try (have hq1 := own_below_pt OV.out hbq; have OV := Lib.hid hq1; clear hq1)); (try (have hq1 := own_below_pt OA.out hbq; have OA := Lib.hid hq1; clear hq1)); (try (have hq1 := own_below_pt OB.out hbq; have OB := Lib.hid hq1; clear hq1)); have hq1 := HBc.out.trans (hbq.mono HBc.out.size); have HBc := Lib.hid hq1; clear hq1 hbq; have OB := Lib.hid hq0; clear hq0 ho))
    | (go_at_call 22; (with_reducible refine (HRM.out _ AA AB cA cB ?_ ?_ ?_ ?_).mono ?_); (focus (exact own_rd_of OA.out rfl)); (focus (exact own_rd_of OB.out rfl)); (focus (exact own_len_pt OA.out)); (focus (exact own_len_pt OB.out)); go_must (rintro e wq ⟨AV, cV, rfl, kR, ho, hbq⟩; have hq0 := ho.lower HBc.out.size; (try (have hq1 := undrewQ hbq; clear hbq; have hbq := hq1; clear hq1)); (try (have hq1 := own_below_pt OM.out hbq; have OM := Lib.hid hq1; clear hq1)); (try (have hq1 := own_below_pt OU.out hbq; have OU := Lib.hid hq1; clear hq1)); (try (have hq1 := own_below_pt OV.out hbq; have OV := Lib.hid hq1; clear hq1)); (try (have hq1 := own_below_pt OA.out hbq; have OA := Lib.hid hq1; clear hq1)); (try (have hq1 := own_below_pt OB.out hbq; have OB := Lib.hid hq1; clear hq1)); have hq1 := HBc.out.trans (hbq.mono HBc.out.size); have HBc := Lib.hid hq1; clear hq1 hbq; have OV := Lib.hid hq0; clear hq0 ho))
    | fail)
  have HSN := Lib.hid (show ∀ W', RowKit.Below W.heap.size W W' → W'.cell? ⟨w.heap.size, 2, none⟩ = some (.int .i64 x.t) ∧ W'.cell? ⟨w.heap.size, 3, none⟩ = some (.int .u64 x.width) from fun W' hb => by
    obtain ⟨-, -, h2, h3, -, -⟩ := HX.out W' hb
    exact ⟨h2, h3⟩)
  try clear OA OB
  go_wp2_with fail
  go_region_held3 (fun W' => W'.cell? ⟨w.heap.size, 2, none⟩ = some (.int .i64 x.t) ∧ W'.cell? ⟨w.heap.size, 3, none⟩ = some (.int .u64 x.width)) (first | exact HSN.out _ HBc.out | exact HSN.out _ (below_drewN HBc.out _)) (first
    | (go_at_call 20; (with_reducible refine (HNA.out _ ?_).mono ?_); (focus (first | exact HBc.out | exact below_drewN HBc.out _)); go_must (rintro e wq ⟨AA, cA, rfl, ho, hbq⟩; have hq0 := ho.lower HBc.out.size; (try (have hq1 := undrewQ hbq; clear hbq; have hbq := hq1; clear hq1)); (try (have hq1 := own_below_pt OM.out hbq; have OM := Lib.hid hq1; clear hq1)); (try (have hq1 := own_below_pt OU.out hbq; have OU := Lib.hid hq1; clear hq1)); (try (have hq1 := own_below_pt OV.out hbq; have OV := Lib.hid hq1; clear hq1)); (try (have hq1 := own_below_pt OA.out hbq; have OA := Lib.hid hq1; clear hq1)); (try (have hq1 := own_below_pt OB.out hbq; have OB := Lib.hid hq1; clear hq1)); have hq1 := HBc.out.trans (hbq.mono HBc.out.size); have HBc := Lib.hid hq1; clear hq1 hbq; have OA := Lib.hid hq0; clear hq0 ho))
    | (go_at_call 20; (with_reducible refine (HNB.out _ ?_).mono ?_); (focus (first | exact HBc.out | exact below_drewN HBc.out _)); go_must (rintro e wq ⟨AB, cB, rfl, ho, hbq⟩; have hq0 := ho.lower HBc.out.size; (try (have hq1 := undrewQ hbq; clear hbq; have hbq := hq1; clear hq1)); (try (have hq1 := own_below_pt OM.out hbq; have OM := Lib.hid hq1; clear hq1)); (try (have hq1 := own_below_pt OU.out hbq; have OU := Lib.hid hq1; clear hq1)); (try (have hq1 := own_below_pt OV.out hbq; have OV := Lib.hid hq1; clear hq1)); (try (have hq1 := own_below_pt OA.out hbq; have OA := Lib.hid hq1; clear hq1)); (try (have hq1 := own_below_pt OB.out hbq; have OB := Lib.hid hq1; clear hq1)); have hq1 := HBc.out.trans (hbq.mono HBc.out.size); have HBc := Lib.hid hq1; clear hq1 hbq; have OB := Lib.hid hq0; clear hq0 ho))
    | (go_at_call 22; (with_reducible refine (HNM.out _ AA AB cA cB ?_ ?_ ?_ ?_).mono ?_); (focus (exact own_rd_of OA.out rfl)); (focus (exact own_rd_of OB.out rfl)); (focus (exact own_len_pt OA.out)); (focus (exact own_len_pt OB.out)); go_must (rintro e wq ⟨AN, cN, rfl, kN, ho, hbq⟩; have hq0 := ho.lower HBc.out.size; (try (have hq1 := undrewQ hbq; clear hbq; have hbq := hq1; clear hq1)); (try (have hq1 := own_below_pt OM.out hbq; have OM := Lib.hid hq1; clear hq1)); (try (have hq1 := own_below_pt OU.out hbq; have OU := Lib.hid hq1; clear hq1)); (try (have hq1 := own_below_pt OV.out hbq; have OV := Lib.hid hq1; clear hq1)); (try (have hq1 := own_below_pt OA.out hbq; have OA := Lib.hid hq1; clear hq1)); (try (have hq1 := own_below_pt OB.out hbq; have OB := Lib.hid hq1; clear hq1)); have hq1 := HBc.out.trans (hbq.mono HBc.out.size); have HBc := Lib.hid hq1; clear hq1 hbq; have ON := Lib.hid hq0; clear hq0 ho))
    | fail)
  try clear OA OB
  have hbc0 : RowKit.Below W.heap.size W _ := HBc.out
  obtain ⟨-, -, -, -, -, h5⟩ := HX.out _ hbc0
  clear hbc0
  go_wp2_with fail
  refine (HUS.out _ AM cM (own_rd_of OM.out rfl)).mono ?_
  rintro e wuU ⟨AP, cP, rfl, ho, hbq⟩
  have OP := Lib.hid ho; clear ho h5
  have hq1 := own_below_pt OM.out hbq; have OM := Lib.hid hq1; clear hq1
  have hq1 := own_below_pt OU.out hbq; have OU := Lib.hid hq1; clear hq1
  have hq1 := own_below_pt OV.out hbq; have OV := Lib.hid hq1; clear hq1
  have hq1 := own_below_pt ON.out hbq; have ON := Lib.hid hq1; clear hq1
  have hq1 := HBc.out.trans (hbq.mono HBc.out.size); have HBc := Lib.hid hq1; clear hq1 hbq
  go_wp2_with fail
  refine (same_any AP AU cP cU mU mU _ (own_rd_of OP.out rfl) (own_rd_of OU.out rfl) (by omega) (by omega)).mono ?_
  rintro e wsU ⟨rfl, hbq⟩
  rw [decide_eq_true rfl]
  have hq1 := own_below_pt OM.out hbq; have OM := Lib.hid hq1; clear hq1
  have hq1 := own_below_pt OU.out hbq; have OU := Lib.hid hq1; clear hq1
  have hq1 := own_below_pt OV.out hbq; have OV := Lib.hid hq1; clear hq1
  have hq1 := own_below_pt ON.out hbq; have ON := Lib.hid hq1; clear hq1
  have hq1 := HBc.out.trans (hbq.mono HBc.out.size); have HBc := Lib.hid hq1; clear hq1 hbq
  clear OP
  have hbc0 : RowKit.Below W.heap.size W _ := HBc.out
  obtain ⟨h0, h1, -, -, -, -⟩ := HX.out _ hbc0
  clear hbc0
  go_wp2_with fail
  refine (HRS.out _ AM cM (own_rd_of OM.out rfl)).mono ?_
  rintro e wuR ⟨AP, cP, rfl, ho, hbq⟩
  have OP := Lib.hid ho; clear ho h0 h1
  have hq1 := own_below_pt OM.out hbq; have OM := Lib.hid hq1; clear hq1
  have hq1 := own_below_pt OU.out hbq; have OU := Lib.hid hq1; clear hq1
  have hq1 := own_below_pt OV.out hbq; have OV := Lib.hid hq1; clear hq1
  have hq1 := own_below_pt ON.out hbq; have ON := Lib.hid hq1; clear hq1
  have hq1 := HBc.out.trans (hbq.mono HBc.out.size); have HBc := Lib.hid hq1; clear hq1 hbq
  go_wp2_with fail
  refine (same_any AP AV cP cV mR mR _ (own_rd_of OP.out rfl) (own_rd_of OV.out rfl) (by omega) (by omega)).mono ?_
  rintro e wsR ⟨rfl, hbq⟩
  rw [decide_eq_true rfl]
  have hq1 := own_below_pt OM.out hbq; have OM := Lib.hid hq1; clear hq1
  have hq1 := own_below_pt OU.out hbq; have OU := Lib.hid hq1; clear hq1
  have hq1 := own_below_pt OV.out hbq; have OV := Lib.hid hq1; clear hq1
  have hq1 := own_below_pt ON.out hbq; have ON := Lib.hid hq1; clear hq1
  have hq1 := HBc.out.trans (hbq.mono HBc.out.size); have HBc := Lib.hid hq1; clear hq1 hbq
  clear OP
  have hbc0 : RowKit.Below W.heap.size W _ := HBc.out
  obtain ⟨-, -, h2, h3, -, -⟩ := HX.out _ hbc0
  clear hbc0
  go_wp2_with fail
  refine (HNS.out _ AM cM (own_rd_of OM.out rfl)).mono ?_
  rintro e wuN ⟨AP, cP, rfl, ho, hbq⟩
  have OP := Lib.hid ho; clear ho h2 h3
  have hq1 := own_below_pt OM.out hbq; have OM := Lib.hid hq1; clear hq1
  have hq1 := own_below_pt OU.out hbq; have OU := Lib.hid hq1; clear hq1
  have hq1 := own_below_pt OV.out hbq; have OV := Lib.hid hq1; clear hq1
  have hq1 := own_below_pt ON.out hbq; have ON := Lib.hid hq1; clear hq1
  have hq1 := HBc.out.trans (hbq.mono HBc.out.size); have HBc := Lib.hid hq1; clear hq1 hbq
  go_wp2_with fail
  refine (same_any AP AN cP cN mN mN _ (own_rd_of OP.out rfl) (own_rd_of ON.out rfl) (by omega) (by omega)).mono ?_
  rintro e wsN ⟨rfl, hbq⟩
  rw [decide_eq_true rfl]
  have hq1 := own_below_pt OM.out hbq; have OM := Lib.hid hq1; clear hq1
  have hq1 := own_below_pt OU.out hbq; have OU := Lib.hid hq1; clear hq1
  have hq1 := own_below_pt OV.out hbq; have OV := Lib.hid hq1; clear hq1
  have hq1 := own_below_pt ON.out hbq; have ON := Lib.hid hq1; clear hq1
  have hq1 := HBc.out.trans (hbq.mono HBc.out.size); have HBc := Lib.hid hq1; clear hq1 hbq
  clear OP
  go_wp2
  go_ret
  exact ⟨rfl, HBW.out.trans (HBc.out.mono hsW)⟩
theorem pointsPartly_walk (A B : Option Addr) (ca cb : Nat) (a b : List Pt) (x : Ak) (w : World) (hA : Rd w A (pcells a)) (hB : Rd w B (pcells b)) (hca : a.length ≤ ca) (hcb : b.length ≤ cb) :
    Calls Try.prog 5 #[.slice A a.length ca, .slice B b.length cb, .agg #[.int .i64 x.lo, .int .i64 x.hi, .int .i64 x.t, .int .u64 x.width, .int .u64 x.back, .int .u64 x.seq]] w fun e w' => e = .returned (.bool true) ∧ RowKit.Below w.heap.size w w' := by
  by_cases hall : (a.length ≤ 400 ∧ b.length ≤ 400) ∧ rightB a = true ∧ rightB b = true
  · obtain ⟨⟨la, lb⟩, ra, rb⟩ := hall
    exact pointsPartly_in A B ca cb a b x w hA hB hca hcb la lb ra rb
  · obtain ⟨W, hW⟩ : ∃ W, W = w.alloc (.cells (boxAk x) 37) := ⟨_, rfl⟩
    have hbw : RowKit.Below w.heap.size w W := by rw [hW]; exact (RowKit.Below.refl _ w).alloc (Nat.le_refl _) _
    have hsW := hbw.size
    have HA := Lib.hid (hA.below hbw); have HB := Lib.hid (hB.below hbw); have HBW := Lib.hid hbw
    unfold boxAk at hW
    have HW := Lib.hid hW
    clear hA hB hbw hW
    have HFA := Lib.hid (fun w => few_any A ca a w); have HFB := Lib.hid (fun w => few_any B cb b w)
    have HLV := Lib.hid live_any
    obtain ⟨la, hla⟩ : ∃ x, x = decide (a.length ≤ 400) := ⟨_, rfl⟩
    obtain ⟨lb, hlb⟩ : ∃ x, x = decide (b.length ≤ 400) := ⟨_, rfl⟩
    have HGA := Lib.hid (fun (h : la = true) (W' : World) (hb : RowKit.Below W.heap.size W W') => right_any A ca a W' (HA.out.below hb) (by rw [hla, decide_eq_true_iff] at h; omega))
    have HGB := Lib.hid (fun (h : lb = true) (W' : World) (hb : RowKit.Below W.heap.size W W') => right_any B cb b W' (HB.out.below hb) (by rw [hlb, decide_eq_true_iff] at h; omega))
    rw [← hla] at HFA; rw [← hlb] at HFB
    have hno : ¬ (la = true ∧ lb = true ∧ rightB a = true ∧ rightB b = true) := by
      rintro ⟨h1, h2, h4⟩
      rw [hla, decide_eq_true_iff] at h1; rw [hlb, decide_eq_true_iff] at h2
      exact hall ⟨⟨h1, h2⟩, h4⟩
    generalize rightB a = ra at HGA hno
    generalize rightB b = rb at HGB hno
    clear hall hla hlb
    have HNO := Lib.hid hno; clear hno
    go_enter Try.func5, Try.ntmps5
    go_wp2_with fail
    rw [← HW.out]
    go_wp2_with fail
    refine (HLV.out _).mono ?_
    rintro e w1 ⟨rfl, hb1⟩
    have B1 := Lib.hid hb1; clear hb1
    go_wp2_with fail
    refine ((HFA.out) _).mono ?_
    rintro e wf ⟨rfl, rfl⟩
    cases la with
    | false =>
      go_wp2_with fail
      refine (HLV.out _).mono ?_
      rintro e wz ⟨rfl, hbz⟩
      have BZ := Lib.hid (B1.out.trans (hbz.mono B1.out.size)); clear hbz
      go_wp2
      go_ret
      exact ⟨rfl, HBW.out.trans (BZ.out.mono hsW)⟩
    | true =>
      go_wp2_with fail
      refine ((HFB.out) _).mono ?_
      rintro e wf ⟨rfl, rfl⟩
      cases lb with
      | false =>
        go_wp2_with fail
        refine (HLV.out _).mono ?_
        rintro e wz ⟨rfl, hbz⟩
        have BZ := Lib.hid (B1.out.trans (hbz.mono B1.out.size)); clear hbz
        go_wp2
        go_ret
        exact ⟨rfl, HBW.out.trans (BZ.out.mono hsW)⟩
      | true =>
        go_wp2_with fail
        refine (HGA.out trivial _ B1.out).mono ?_
        rintro e w2 ⟨rfl, hb2⟩
        have B2 := Lib.hid (B1.out.trans (hb2.mono B1.out.size)); clear hb2
        cases ra with
        | false =>
          go_wp2_with fail
          refine (HLV.out _).mono ?_
          rintro e wz ⟨rfl, hbz⟩
          have BZ := Lib.hid (B2.out.trans (hbz.mono B2.out.size)); clear hbz
          go_wp2
          go_ret
          exact ⟨rfl, HBW.out.trans (BZ.out.mono hsW)⟩
        | true =>
          go_wp2_with fail
          refine (HGB.out trivial _ B2.out).mono ?_
          rintro e w3 ⟨rfl, hb3⟩
          have B3 := Lib.hid (B2.out.trans (hb3.mono B2.out.size)); clear hb3
          cases rb with
          | false =>
            go_wp2_with fail
            refine (HLV.out _).mono ?_
            rintro e wz ⟨rfl, hbz⟩
            have BZ := Lib.hid (B3.out.trans (hbz.mono B3.out.size)); clear hbz
            go_wp2
            go_ret
            exact ⟨rfl, HBW.out.trans (BZ.out.mono hsW)⟩
          | true =>
            exact absurd (by simp) HNO.out
end

set_option maxRecDepth 100000 in
theorem pointsPartly_lifted (os : Os) (started : os.Started) (H : Type) (enc : TypeId × Value → H) :
    ReturnsInHanded {} Try.checked os 5 .any (Rows.pointsPartlySpec.pre6 enc Try.prog Try.f5 Rows.pointsPartlyRow.domain false) (Rows.pointsPartlySpec.post enc Try.prog Try.f5 false true false false) := by
  refine returnsInHanded_of_change (C := Try.checked) ownKn started (by kernel_rfl) Try.func5
    (ChangeSpec.witness6 (enc := enc) (C := Try.checked) false ⟨#[], #[.slice none 0 0, .slice none 0 0, .agg #[.int .i64 0, .int .i64 0, .int .i64 0, .int .u64 0, .int .u64 0, .int .u64 0]], []⟩ 8 (by kernel_rfl) (by kernel_rfl) (by kernel_rfl) (by kernel_rfl)) ?_
  intro W base args ds gs before hval0 hW hcnd _
  have hval : ∀ (j : Nat) t v, Try.f5.params[j]? = some t → args[j]? = some v → Value.okWide Try.prog W .any base t v := hval0
  have hW' := hW
  obtain ⟨p, q, hA0, hV, rfl, hfz, hnd⟩ := hW
  have hA : DataW.TrodAll enc Try.prog W 0 (fun _ => true) true Try.f5.params.toList args.toList ds p := hA0
  rw [Try.params5] at hA hval
  obtain ⟨v0, vs0, d0, ds0, p0, q0, hargs, rfl, rfl, h0, r0⟩ := trodAll_cons hA
  obtain ⟨v1, vs1, d1, ds1, p1, q1, rfl, rfl, rfl, h1, r1⟩ := trodAll_cons r0
  obtain ⟨v2, vs2, d2, ds2, p2, q2, rfl, rfl, rfl, h2, r2⟩ := trodAll_cons r1
  obtain ⟨rfl, rfl, rfl⟩ := trodAll_nil r2
  obtain rfl : args = #[v0, v1, v2] := by cases args; simp_all
  obtain ⟨rfl, rfl⟩ := trodVars_none hV
  obtain ⟨A0, c0, l0, rfl, hm0, hx0⟩ := open_points (hval 0 22 v0 rfl rfl) h0
  obtain ⟨A1, c1, l1, rfl, hm1, hx1⟩ := open_points (hval 1 22 v1 rfl rfl) h1
  obtain ⟨x2, rfl⟩ := open_ask (hval 2 37 v2 rfl rfl) h2
  clear hA0 hval0 hA
  unfold maxLen at hm0
  unfold maxLen at hm1
  refine (pointsPartly_walk A0 A1 c0 c1 l0 l1 x2 W hx0 hx1 hm0.1 hm1.1).mono fun e W' ⟨he, hg⟩ => ?_
  subst he
  exact ⟨_, rfl, law_end laidOut (by kernel_rfl) (by kernel_rfl) Try.underlying4 rfl hW' ⟨rfl, rfl, rfl⟩ hg⟩

theorem pointsPartly_holds : Rows.PointsPartlySaid :=
  OpenClaim.holds_of_wide 5 Try.f5 rfl rfl rfl rfl rfl rfl rfl ⟨rfl, rfl, rfl, rfl, rfl⟩ rfl rfl rfl rfl rfl (by kernel_rfl) Try.func5 (by kernel_rfl)
    (of_decide_eq_true (by kernel_rfl)) (by unfold Func.isWrapper; first | (rw [if_pos (by decide +kernel)]; kernel_rfl) | (rw [if_neg (by decide +kernel)]; exact ⟨rfl, rfl⟩))
    (fun os started H enc _ => pointsPartly_lifted os started H enc)
#print axioms pointsPartly_holds

end Go.Proofs.Ytfohmepjedehfab
