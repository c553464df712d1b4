/-
  One rune of a text: which atoms may come behind.
-/
import Derived.Test.YtfohmepjedehfabRt1
namespace Go.Proofs.Ytfohmepjedehfab
set_option linter.unusedVariables false
set_option linter.unusedSimpArgs false
open Go.RowKit
theorem results_s2 {fn : Func} {p u : Tmp} (h : fn.results = #[.cell p 83, .tmp u]) (tmps : Array Value) (w : World) (g : Nat) (cs : Array Value)
    (hp : tmps.getD p undef = .pointer (some ⟨g, 0, none⟩)) (hg : w.heap[g]? = some (.cells cs 83 (0, 0))) (hc : cs.size = 4) :
    (results fn tmps).run Try.prog w = .ok (.tuple #[.agg cs, tmps.getD u undef]) w := by
  have hp' : tmps[p]?.getD undef = .pointer (some ⟨g, 0, none⟩) := by simpa using hp
  simp [results, h, hp', asAddr, run_loadVar_row w g 83 83 cs (0, 0) _ hg Try.underlying83 rfl (by rw [hc]; kernel_rfl)]
theorem post_s2 {fn : Func} {R : Ending → World → Prop} {a : Act} {w : World} {p u : Tmp} (h : fn.results = #[.cell p 83, .tmp u]) (g : Nat) (cs : Array Value)
    (hp : a.tmps.getD p undef = .pointer (some ⟨g, 0, none⟩)) (hg : w.heap[g]? = some (.cells cs 83 (0, 0))) (hc : cs.size = 4) (hdf : a.defers = [])
    (hR : R (.returned (.tuple #[.agg cs, a.tmps.getD u undef])) w) : bodyPost Try.prog fn R .ret a w :=
  bodyPost_ret (results_s2 h a.tmps w g cs hp hg hc) hdf hR
/-- An atom in its row. -/
theorem AtIs.atom {w : World} {B : Nat} {v : Value} {us : List Value} {A : List Atm} (h : AtIs w B v us A) {k : Nat} {a : Atm} (ha : A[k]? = some a) :
    ∃ ga c u, v = .slice (some ⟨ga, 0, none⟩) A.length c ∧ ga < w.heap.size ∧ (∀ j y, (atC u a)[j]? = some y → w.cell? ⟨ga, k * 6 + j, none⟩ = some y) ∧ w.ownsRow B 128 2 u a.sp.length (spC a.sp) := by
  have hk := (List.getElem?_eq_some_iff.mp ha).1
  rcases h.row.2 with ⟨e1, e2⟩ | ⟨g, cap, cur, e1, hB, hh, hn, hc, hs, ht⟩
  · omega
  · have ho : v.ownBlock = some g := by rw [e1]; rfl
    obtain ⟨u, hu⟩ : ∃ u, us[k]? = some u := ⟨us[k]'(by rw [h.len]; exact hk), List.getElem?_eq_getElem _⟩
    refine ⟨g, cap, u, e1, (h.row.lt g ho).2, fun j y hj => ?_, h.sp k u a hu ha⟩
    have hj6 : j < 6 := (List.getElem?_eq_some_iff.mp hj).1
    have := h.row.cells (g := g) ho (k * 6 + j) y (by rw [atsC_get us A k u a hu ha j hj6]; exact hj)
    rwa [add_flat] at this
structure StIs (W wr : World) (g8 : Nat) (x : Nat) : Prop where
  box : wr.heap[g8]? = some (.cells (setL x).toArray 83 (0, 0))
  mv : Mv (fun k => k = g8) W wr
theorem StIs.below {W wr w2 : World} {g8 x : Nat} (k : StIs W wr g8 x) (h : RowKit.Below wr.heap.size wr w2) : StIs W w2 g8 x :=
  ⟨(h.block _ (blk_lt k.box)).trans k.box, k.mv.trans (Mv.of_below h _) fun _ _ h => h⟩
theorem StIs.set {W wr w2 : World} {g8 x : Nat} (k : StIs W wr g8 x) (h : RowKit.Below wr.heap.size wr w2) (y : Nat) :
    StIs W ((((w2.setCell ⟨g8, 0, none⟩ (.int .u64 (wd y 0 : Nat))).setCell ⟨g8, 1, none⟩ (.int .u64 (wd y 1 : Nat))).setCell ⟨g8, 2, none⟩ (.int .u64 (wd y 2 : Nat))).setCell ⟨g8, 3, none⟩ (.int .u64 (wd y 3 : Nat))) g8 y := by
  have k2 := k.below h
  have hb := set_blk (set_blk (set_blk (set_blk k2.box 0 (.int .u64 (wd y 0 : Nat))) 1 (.int .u64 (wd y 1 : Nat))) 2 (.int .u64 (wd y 2 : Nat))) 3 (.int .u64 (wd y 3 : Nat))
  refine ⟨by simpa [setL] using hb, (((k2.mv.setCell (fun _ => rfl) _).setCell (fun _ => rfl) _).setCell (fun _ => rfl) _).setCell (fun _ => rfl) _⟩
theorem stepF_step (next last : Nat) (c : Int) {A : List Atm} {k : Nat} {a : Atm} (h : A[k]? = some a) (r : Nat × Bool) : stepF next last c k (A.drop k) r = stepF next last c (k + 1) (A.drop (k + 1)) (if next.testBit k && takesP a.sp a.neg c then (r.1 ||| a.next, r.2 || last.testBit k) else r) := by
  have hk := List.getElem?_eq_some_iff.mp h
  rw [List.drop_eq_getElem_cons hk.1, hk.2]
  rfl
section
set_option maxHeartbeats 3200000
set_option maxRecDepth 100000
theorem step_any (b : Nat) (s : ByteArray) (t : Re) (next : Nat) (c : Int) (w : World) (h : RexIs w b s t) :
    Calls Try.prog 46 #[.pointer (some ⟨b, 0, none⟩), setV next, .int .i32 c] w fun e w' => e = .returned (.tuple #[setV (stepF next (compP t []).1.last c 0 (compP t []).2 (0, false)).1, .bool (stepF next (compP t []).1.last c 0 (compP t []).2 (0, false)).2]) ∧ RowKit.Below w.heap.size w w' := by
  obtain ⟨⟨v, us, hbx, hat⟩, hfew⟩ := h
  -- spans are few
  obtain ⟨X, hX⟩ : ∃ X, (compP t []).1 = X := ⟨_, rfl⟩
  obtain ⟨A, hA⟩ : ∃ A, (compP t []).2 = A := ⟨_, rfl⟩
  rw [hX, hA]
  rw [hX] at hbx
  rw [hA] at hat hfew
  obtain ⟨Rx, hRx⟩ : ∃ Rx, stepF next X.last c 0 A (0, false) = Rx := ⟨_, rfl⟩
  rw [hRx]
  obtain ⟨W, hW⟩ : ∃ W, W = ((w.alloc (.cells #[.int .u64 (wd next 0 : Nat), .int .u64 (wd next 1 : Nat), .int .u64 (wd next 2 : Nat), .int .u64 (wd next 3 : Nat)] 83)).alloc (.cells #[.int .u64 0, .int .u64 0, .int .u64 0, .int .u64 0] 83)).alloc (.cells #[.int .u64 0, .int .u64 0, .int .u64 0, .int .u64 0] 83) := ⟨_, rfl⟩
  obtain ⟨g8, hg8⟩ : ∃ g8, g8 = w.heap.size + 1 + 1 := ⟨_, rfl⟩
  have hb : RowKit.Below w.heap.size w W := by rw [hW]; exact (((RowKit.Below.refl _ w).alloc (Nat.le_refl _) _).alloc (by simp) _).alloc (by simp; omega) _
  have h2 : W.heap[w.heap.size]? = some (.cells #[.int .u64 (wd next 0 : Nat), .int .u64 (wd next 1 : Nat), .int .u64 (wd next 2 : Nat), .int .u64 (wd next 3 : Nat)] 83 (0, 0)) := by
    rw [hW, Below.heap_alloc _ _ _ (by simp; omega), Below.heap_alloc _ _ _ (by simp)]; exact heap_alloc_new _ _
  have h3 : W.heap[w.heap.size + 1]? = some (.cells #[.int .u64 0, .int .u64 0, .int .u64 0, .int .u64 0] 83 (0, 0)) := by
    rw [hW, Below.heap_alloc _ _ _ (by simp)]; exact heap_alloc_new2 _ _ _
  have h4 : W.heap[g8]? = some (.cells #[.int .u64 0, .int .u64 0, .int .u64 0, .int .u64 0] 83 (0, 0)) := by
    have := heap_alloc_new ((w.alloc (.cells #[.int .u64 (wd next 0 : Nat), .int .u64 (wd next 1 : Nat), .int .u64 (wd next 2 : Nat), .int .u64 (wd next 3 : Nat)] 83)).alloc (.cells #[.int .u64 0, .int .u64 0, .int .u64 0, .int .u64 0] 83)) (.cells #[.int .u64 0, .int .u64 0, .int .u64 0, .int .u64 0] 83)
    rw [hW, hg8]; simpa using this
  have hblt := blk_lt hbx
  have hS0 : StIs W W g8 0 := ⟨by rw [h4]; simp [setL, wd], Mv.refl _ _⟩
  have hbW := (hb.block _ hblt).trans hbx
  have hs : ∀ W1, Mv (fun k => k = g8) W W1 → W1.cell? ⟨w.heap.size, 0, none⟩ = some (.int .u64 (wd next 0 : Nat)) ∧ W1.cell? ⟨w.heap.size, 1, none⟩ = some (.int .u64 (wd next 1 : Nat)) ∧ W1.cell? ⟨w.heap.size, 2, none⟩ = some (.int .u64 (wd next 2 : Nat)) ∧ W1.cell? ⟨w.heap.size, 3, none⟩ = some (.int .u64 (wd next 3 : Nat)) ∧ W1.cell? ⟨b, 2, none⟩ = some v ∧ W1.cell? ⟨b, 7, none⟩ = some (.int .u64 (wd X.last 0 : Nat)) ∧ W1.cell? ⟨b, 8, none⟩ = some (.int .u64 (wd X.last 1 : Nat)) ∧ W1.cell? ⟨b, 9, none⟩ = some (.int .u64 (wd X.last 2 : Nat)) ∧ W1.cell? ⟨b, 10, none⟩ = some (.int .u64 (wd X.last 3 : Nat)) ∧ W1.heap[w.heap.size + 1]? = some (.cells #[.int .u64 0, .int .u64 0, .int .u64 0, .int .u64 0] 83 (0, 0)) := fun W1 m => by
    have k2 := (m.block _ (blk_lt h2) (by omega)).trans h2
    have k3 := (m.block _ (blk_lt h3) (by omega)).trans h3
    have kb := (m.block _ (blk_lt hbW) (by omega)).trans hbW
    refine ⟨?_, ?_, ?_, ?_, ?_, ?_, ?_, ?_, ?_, k3⟩ <;> first | (rw [cell_blk k2]; rfl) | (rw [cell_blk kb]; rfl)
  have hatm : ∀ (k : Nat) (a : Atm), A[k]? = some a → ∃ ga cc u, v = .slice (some ⟨ga, 0, none⟩) A.length cc ∧ ∀ W1, Mv (fun k => k = g8) W W1 → ((∀ j y, (atC u a)[j]? = some y → W1.cell? ⟨ga, k * 6 + j, none⟩ = some y) ∧ W1.ownsRow 0 128 2 u a.sp.length (spC a.sp)) := fun k a ha => by
    obtain ⟨ga, cc, u, e1, e2, e3, e4⟩ := hat.atom ha
    refine ⟨ga, cc, u, e1, fun W1 m => ?_⟩
    have m1 : Mv (fun k => w.heap.size ≤ k) w W1 := (Mv.of_below hb _).trans m fun i hi e => by omega
    refine ⟨fun j y hj => ?_, own_mv e4 m1 fun k hk e => by have := (e4.lt k hk).2; omega⟩
    have := e3 j y hj
    rw [cell_mv m1 this (by simp only; omega)]; exact this
  obtain ⟨Av, cv, hv, -, -, -⟩ := own_rdg hat.row
  have b2 := cell_blk hbx 2
  rw [show (rexC s v X)[2]? = some v from rfl, hv] at b2
  have HS := Lib.hid hs; have HATM := Lib.hid hatm; have HB := Lib.hid hb; have HS0 := Lib.hid hS0; have HW := Lib.hid hW; have HRX := Lib.hid hRx; have HV := Lib.hid hv
  have HBN := Lib.hid hblt
  have hbn1 : b ≠ w.heap.size := by omega
  have hbn2 : b ≠ w.heap.size + 1 := by omega
  have hbn3 : b ≠ w.heap.size + 1 + 1 := by omega
  have hbn4 : b ≠ w.heap.size + 2 := by omega
  have hbl1 : b < w.heap.size + 1 := by omega
  have hbl2 : b < w.heap.size + 1 + 1 := by omega
  have hbl3 : b < w.heap.size + 2 := by omega
  obtain ⟨n, hn⟩ : ∃ n, n = A.length := ⟨_, rfl⟩
  rw [← hn] at b2 hfew
  have HN := Lib.hid hn
  clear hs hatm hb hS0 hW hRx hv h2 h3 h4 hbW hbx hat hX hA hn
  have HGW := Lib.hid hg8
  subst hg8
  unfold setV setL
  go_enter Try.func46, Try.ntmps46
  go_wp2_with fail
  rw [← HW.out]
  obtain ⟨g8, hg8⟩ : ∃ g8, g8 = w.heap.size + 1 + 1 := ⟨_, rfl⟩
  rw [← hg8] at HS HATM HS0 ⊢
  have HG8 := Lib.hid hg8
  clear hg8 HGW
  go_loopw [9, 16] (fun s9 s16 wr => ∃ (k x : Nat) (en : Bool), s9 = .bool en ∧ s16 = .int .i64 k ∧ k ≤ n ∧ Aside (StIs W wr g8 x) ∧ Aside (stepF next X.last c k (A.drop k) (x, en) = Rx)) (fun _ s16 _ => n - (intOf s16).toNat)
  case atStart => exact ⟨0, 0, false, rfl, rfl, by omega, HS0.out, HRX.out⟩
  case round =>
    obtain ⟨k, x, en, rfl, rfl, hk, HK, HE⟩ := hrel
    obtain ⟨c0, c1, c2, c3, d2, d7, d8, d9, d10, hz⟩ := HS.out wr HK.out.mv
    have HZ6 := Lib.hid hz
    clear hz
    by_cases hlt : k < n
    · have k1 : (k : Int) < (n : Int) := by omega
      have k0 : (0 : Int) ≤ (k : Int) := by omega
      obtain ⟨a, ha⟩ := folK_get_len (L := A) (k := k) (by have := HN.out; omega)
      have hE := HE.out
      rw [stepF_step next X.last c ha] at hE
      obtain ⟨ga, cc, u, e1, e2⟩ := HATM.out k a ha
      have HAV := Lib.hid (show v = .slice (some ⟨ga, 0, none⟩) n cc by rw [e1, ← HN.out])
      rw [HAV.out] at d2
      have HAT := Lib.hid e2
      have HH := Lib.hid (has_lit next k (by omega) wr)
      clear ha e1 e2
      cases hbit : next.testBit k with
      | false =>
        rw [hbit] at HH hE
        have HE2 := Lib.hid hE
        clear hE HE d7 d8 d9 d10
        go_wp2_with fail
        refine HH.out.mono ?_
        rintro e w1 ⟨rfl, hb1⟩
        go_wp2
        go_roundw
        case rel => exact ⟨k + 1, x, en, rfl, by go_num, by omega, (show Aside _ from HK.out.below hb1), (show Aside _ from HE2.out)⟩
        case measure => simp [intOf]; omega
      | true =>
        rw [hbit] at HH hE
        have HTK := Lib.hid (fun (W1 : World) (m : Mv (fun k => k = g8) W W1) => takes_any ga (k * 6) a u c W1 0 ((HAT.out W1 m).1 0 _ rfl) ((HAT.out W1 m).1 1 _ rfl) (HAT.out W1 m).2)
        have HST := Lib.hid (show ∀ W1, RowKit.Below wr.heap.size wr W1 → StIs W W1 g8 x from fun W1 m => HK.out.below m)
        cases htk : takesP a.sp a.neg c with
        | false =>
          rw [htk] at HTK hE
          have HE2 := Lib.hid hE
          clear hE HE d7 d8 d9 d10
          go_wp2_with fail
          refine HH.out.mono ?_
          rintro e w1 ⟨rfl, hb1⟩
          clear c0 c1 c2 c3 d2
          have hk1 := HST.out w1 hb1
          obtain ⟨c0, c1, c2, c3, d2, d7, d8, d9, d10, -⟩ := HS.out w1 hk1.mv
          rw [HAV.out] at d2
          have HTK1 := Lib.hid (HTK.out w1 hk1.mv)
          have HK1 := Lib.hid hk1
          clear hk1 d7 d8 d9 d10 hb1
          go_wp2_with fail
          refine HTK1.out.mono ?_
          rintro e w2 ⟨rfl, hb2⟩
          go_wp2
          go_roundw
          case rel => exact ⟨k + 1, x, en, rfl, by go_num, by omega, (show Aside _ from HK1.out.below hb2), (show Aside _ from HE2.out)⟩
          case measure => simp [intOf]; omega
        | true =>
          rw [htk] at HTK hE
          have HE2 := Lib.hid hE
          have HNX := Lib.hid (fun (W1 : World) (m : Mv (fun k => k = g8) W W1) => (⟨(HAT.out W1 m).1 2 _ rfl, (HAT.out W1 m).1 3 _ rfl, (HAT.out W1 m).1 4 _ rfl, (HAT.out W1 m).1 5 _ rfl⟩ : W1.cell? ⟨ga, k * 6 + 2, none⟩ = some (.int .u64 (wd a.next 0 : Nat)) ∧ W1.cell? ⟨ga, k * 6 + 2 + 1, none⟩ = some (.int .u64 (wd a.next 1 : Nat)) ∧ W1.cell? ⟨ga, k * 6 + 2 + 2, none⟩ = some (.int .u64 (wd a.next 2 : Nat)) ∧ W1.cell? ⟨ga, k * 6 + 2 + 3, none⟩ = some (.int .u64 (wd a.next 3 : Nat))))
          clear hE HE d7 d8 d9 d10
          generalize a.next = nx at HE2 HNX
          have hl2 := fun i => has_lit X.last k (by omega : k < 256)
          have HLA := Lib.hid (fun W1 => has_lit X.last k (by omega : k < 256) W1)
          clear hl2
          go_wp2_with fail
          refine HH.out.mono ?_
          rintro e w1 ⟨rfl, hb1⟩
          clear c0 c1 c2 c3 d2
          have hk1 := HST.out w1 hb1
          obtain ⟨c0, c1, c2, c3, d2, d7, d8, d9, d10, -⟩ := HS.out w1 hk1.mv
          rw [HAV.out] at d2
          have HTK1 := Lib.hid (HTK.out w1 hk1.mv)
          have HK1 := Lib.hid hk1
          clear hk1 d7 d8 d9 d10 hb1
          go_wp2_with fail
          refine HTK1.out.mono ?_
          rintro e w2 ⟨rfl, hb2⟩
          have hk2 := HK1.out.below hb2
          have HK2 := Lib.hid hk2
          clear c0 c1 c2 c3 d2 hb2 HK1 HTK1
          obtain ⟨c0, c1, c2, c3, d2, d7, d8, d9, d10, -⟩ := HS.out w2 hk2.mv
          rw [HAV.out] at d2
          obtain ⟨n0, n1, n2, n3⟩ := HNX.out w2 hk2.mv
          have y0 := cell_blk hk2.box 0
          have y1 := cell_blk hk2.box 1
          have y2 := cell_blk hk2.box 2
          have y3 := cell_blk hk2.box 3
          have yf := fun i => free_blk hk2.box i
          simp only [setL, List.getElem?_toArray, List.getElem?_cons_zero, List.getElem?_cons_succ] at y0 y1 y2 y3
          have HBB := Lib.hid (RowKit.Below.refl w2.heap.size w2)
          have hbg : b ≠ g8 := by have := HBN.out; have := HG8.out; omega
          clear hk2
          go_wp2_with fail
          go_region_law (first
            | (go_simp; go_at_call 67; go_must ((with_reducible refine (with_lit _ _ _).mono ?_); rintro e wq ⟨rfl, hbq⟩; (try (have hq1 := undrew hbq; clear hbq; have hbq := hq1; clear hq1)); have hq1 := HBB.out.trans (hbq.mono HBB.out.size); have hkq := HK2.out.below hq1; have HBQ := Lib.hid hq1; have HKQ := Lib.hid hkq; have z0 := cell_blk hkq.box 0; have z1 := cell_blk hkq.box 1; have z2 := cell_blk hkq.box 2; have z3 := cell_blk hkq.box 3; have zf := fun i => free_blk hkq.box i; simp only [setL, List.getElem?_toArray, List.getElem?_cons_zero, List.getElem?_cons_succ] at z0 z1 z2 z3; obtain ⟨-, -, -, -, f2, f7, f8, f9, f10, -⟩ := HS.out wq hkq.mv; rw [HAV.out] at f2; clear hq1 hbq hkq))
            | fail)
          all_goals
            cases en with
            | true =>
              go_wp2
              go_roundw
              case rel => exact ⟨k + 1, x ||| nx, true, rfl, by go_num, by omega, (show Aside _ from HK2.out.set HBQ.out (x ||| nx)), (show Aside _ from HE2.out)⟩
              case measure => simp [intOf]; omega
            | false =>
              go_wp2_with fail
              refine (HLA.out _).mono ?_
              rintro e w5 ⟨rfl, hb5⟩
              go_wp2
              go_roundw
              case rel => exact ⟨k + 1, x ||| nx, _, rfl, by go_num, by omega, (show Aside _ from (HK2.out.set HBQ.out (x ||| nx)).below hb5), (show Aside _ from HE2.out)⟩
              case measure => simp [intOf]; omega
    · obtain rfl : k = n := by omega
      have hE := HE.out
      rw [HN.out, List.drop_length] at hE
      have hRx : Rx = (x, en) := hE.symm
      have HRX2 := Lib.hid hRx
      have y0 := cell_blk HK.out.box 0
      have y1 := cell_blk HK.out.box 1
      have y2 := cell_blk HK.out.box 2
      have y3 := cell_blk HK.out.box 3
      simp only [setL, List.getElem?_toArray, List.getElem?_cons_zero, List.getElem?_cons_succ] at y0 y1 y2 y3
      have q0 := cell_blk HZ6.out 0
      have q1 := cell_blk HZ6.out 1
      have q2 := cell_blk HZ6.out 2
      have q3 := cell_blk HZ6.out 3
      have qf := fun i => free_blk HZ6.out i
      simp only [List.getElem?_toArray, List.getElem?_cons_zero, List.getElem?_cons_succ] at q0 q1 q2 q3
      clear hE hRx HE c0 c1 c2 c3 d2 d7 d8 d9 d10
      go_wp2
      have hb6 := set_blk (set_blk (set_blk (set_blk HZ6.out 0 (.int .u64 (wd x 0 : Nat))) 1 (.int .u64 (wd x 1 : Nat))) 2 (.int .u64 (wd x 2 : Nat))) 3 (.int .u64 (wd x 3 : Nat))
      refine post_s2 rfl (w.heap.size + 1) _ rfl hb6 rfl rfl ?_
      rw [HRX2.out]
      refine ⟨rfl, ?_⟩
      have m1 : Mv (fun k => w.heap.size ≤ k) w wr := (Mv.of_below HB.out _).trans HK.out.mv fun i hi e => by have := HG8.out; omega
      exact ((((m1.setCell (fun _ => Nat.le_succ _) _).setCell (fun _ => Nat.le_succ _) _).setCell (fun _ => Nat.le_succ _) _).setCell (fun _ => Nat.le_succ _) _).belowB (Nat.le_refl _) fun k hk h => by omega
end
end Go.Proofs.Ytfohmepjedehfab
