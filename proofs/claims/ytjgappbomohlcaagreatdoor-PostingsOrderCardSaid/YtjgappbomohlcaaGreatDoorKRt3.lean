/-
  Which runes an atom takes. One rune of a text: which atoms may come behind. Which texts a pattern matches.
-/
import Derived.ChangeKeysEq
import Derived.Test.YtjgappbomohlcaaGreatDoorKQz
import Derived.Test.YtjgappbomohlcaaGreatDoorKRe
namespace Go.Proofs.YtjgappbomohlcaaGreatDoor
section
set_option linter.unusedVariables false
set_option linter.unusedSimpArgs false
section
set_option linter.unusedVariables false
set_option linter.unusedSimpArgs false
open Go.RowKit
theorem inSpans_drop (l : Spans) (c : Int) {k : Nat} {s : Int × Int} (h : l[k]? = some s) : inSpans (l.drop k) c = ((decide (s.1 ≤ c) && decide (c ≤ s.2)) || inSpans (l.drop (k + 1)) c) := by
  have hk := (List.getElem?_eq_some_iff.mp h)
  rw [List.drop_eq_getElem_cons hk.1, hk.2]
  simp [inSpans]
theorem spC_get : ∀ (l : Spans) (k : Nat) (s : Int × Int), l[k]? = some s → (spC l)[k * 2]? = some (.int .i32 s.1) ∧ (spC l)[k * 2 + 1]? = some (.int .i32 s.2)
  | x :: l, 0, s, h => by simp at h; subst h; exact ⟨rfl, rfl⟩
  | x :: l, k + 1, s, h => by
    simp only [List.getElem?_cons_succ] at h
    have := spC_get l k s h
    rw [show spC (x :: l) = .int .i32 x.1 :: .int .i32 x.2 :: spC l from rfl]
    rw [show (k + 1) * 2 = k * 2 + 1 + 1 from by omega, show k * 2 + 1 + 1 + 1 = (k * 2 + 1) + 1 + 1 from by omega]
    simpa using this
  | [], k, s, h => by simp at h
section
set_option maxHeartbeats 3200000
set_option maxRecDepth 100000
/-- The atom's cells lie at g from o on. -/
theorem takes_any (g o : Nat) (a : Atm) (u : Value) (c : Int) (w : World) (B : Nat) (h0 : w.cell? ⟨g, o, none⟩ = some u) (h1 : w.cell? ⟨g, o + 1, none⟩ = some (.bool a.neg)) (hu : w.ownsRow B 234 2 u a.sp.length (spC a.sp)) :
    Calls Tryz.prog 160 #[.pointer (some ⟨g, o, none⟩), .int .i32 c] w fun e w' => e = .returned (.bool (takesP a.sp a.neg c)) ∧ RowKit.Below w.heap.size w w' := by
  obtain ⟨A, cu, rfl, hr, hl1, hl2⟩ := own_rdg hu
  have hl : a.sp.length ≤ 9223372036854775807 := Nat.le_trans hl1 hl2
  obtain ⟨T, hT⟩ : ∃ T, takesP a.sp a.neg c = T := ⟨_, rfl⟩
  rw [hT]
  unfold takesP at hT
  have HT := Lib.hid hT; have HR := Lib.hid hr; have H0 := Lib.hid h0; have H1 := Lib.hid h1
  obtain ⟨n, hn⟩ : ∃ n, n = a.sp.length := ⟨_, rfl⟩
  rw [← hn] at h0 hl
  have HN := Lib.hid hn
  have HLT := Lib.hid (show g < w.heap.size by
    unfold World.cell? at h0
    cases hq : w.heap[g]? with
    | none => simp [hq] at h0
    | some o => exact blk_lt hq)
  clear hT hr hu h1 hn hl1 hl2
  go_enter Tryz.func160, Tryz.ntmps160
  go_wp2_with fail
  go_loopw [12] (fun s12 wr => ∃ (k : Nat), s12 = .int .i64 k ∧ k ≤ n ∧ Aside (inSpans (a.sp.drop k) c = inSpans a.sp c) ∧ Aside (RowKit.Below w.heap.size w wr)) (fun s12 _ => n - (intOf s12).toNat)
  case atStart => exact ⟨0, rfl, by omega, rfl, RowKit.Below.refl _ _⟩
  case round =>
    obtain ⟨k, rfl, hk, HI, HB⟩ := hrel
    have hc1 : wr.cell? ⟨g, o + 1, none⟩ = some (.bool a.neg) := by rw [cell_below HB.out H1.out]; exact H1.out
    have hgw : g < wr.heap.size := Nat.lt_of_lt_of_le HLT.out HB.out.size
    have hgn : g ≠ wr.heap.size := by omega
    by_cases hlt : k < n
    · have k1 : (k : Int) < (n : Int) := by omega
      obtain ⟨sq, hsq⟩ : ∃ sq, a.sp[k]? = some sq := ⟨a.sp[k]'(by have := HN.out; omega), List.getElem?_eq_getElem _⟩
      obtain ⟨q0, q1⟩ := spC_get a.sp k sq hsq
      have hI := HI.out
      rw [inSpans_drop a.sp c hsq] at hI
      have hrr := HR.out.below HB.out
      obtain ⟨b, o2, e1, z0⟩ := hrr _ _ q0
      obtain ⟨b', o2', e1', z1⟩ := hrr _ _ q1
      rw [e1] at e1'
      injection e1' with e1'; injection e1' with e2 e3
      subst e2; subst e3; subst e1
      obtain ⟨lo, hi⟩ := sq
      rw [← Nat.add_assoc] at z1
      simp only at z0 z1 hI
      have HII := Lib.hid hI
      clear q0 q1 hsq hrr hI HI
      have k0 : (0 : Int) ≤ (k : Int) := by omega
      by_cases c1 : lo ≤ c
      · by_cases c2 : c ≤ hi
        · have HTT := Lib.hid (show T = !a.neg by rw [← HT.out, ← HII.out, decide_eq_true c1, decide_eq_true c2]; simp)
          generalize a.neg = ng at *
          go_wp2
          go_ret
          rw [HTT.out]
          exact ⟨rfl, HB.out.alloc HB.out.size _⟩
        · have HI2 := Lib.hid (show inSpans (a.sp.drop (k + 1)) c = inSpans a.sp c by rw [← HII.out, decide_eq_false c2]; simp)
          go_wp2
          go_roundw
          case rel => exact ⟨k + 1, by go_num, by omega, HI2.out, (show Aside _ from HB.out.alloc HB.out.size _)⟩
          case measure => simp [intOf]; omega
      · have HI2 := Lib.hid (show inSpans (a.sp.drop (k + 1)) c = inSpans a.sp c by rw [← HII.out, decide_eq_false c1]; simp)
        go_wp2
        go_roundw
        case rel => exact ⟨k + 1, by go_num, by omega, HI2.out, (show Aside _ from HB.out.alloc HB.out.size _)⟩
        case measure => simp [intOf]; omega
    · obtain rfl : k = n := by omega
      have HTT := Lib.hid (show T = a.neg by rw [← HT.out, ← HI.out, HN.out, List.drop_length]; simp [inSpans])
      generalize a.neg = ng at *
      go_wp2
      go_ret
      rw [HTT.out]
      exact ⟨rfl, HB.out⟩
end
end
section
set_option linter.unusedVariables false
set_option linter.unusedSimpArgs false
open Go.RowKit
theorem results_s2 {fn : Func} {p u : Tmp} (h : fn.results = #[.cell p 184, .tmp u]) (tmps : Array Value) (w : World) (g : Nat) (cs : Array Value)
    (hp : tmps.getD p undef = .pointer (some ⟨g, 0, none⟩)) (hg : w.heap[g]? = some (.cells cs 184 (0, 0))) (hc : cs.size = 4) :
    (results fn tmps).run Tryz.prog w = .ok (.tuple #[.agg cs, tmps.getD u undef]) w := by
  have hp' : tmps[p]?.getD undef = .pointer (some ⟨g, 0, none⟩) := by simpa using hp
  simp [results, h, hp', asAddr, run_loadVar_row w g 184 184 cs (0, 0) _ hg Tryz.underlying184 rfl (by rw [hc]; kernel_rfl)]
theorem post_s2 {fn : Func} {R : Ending → World → Prop} {a : Act} {w : World} {p u : Tmp} (h : fn.results = #[.cell p 184, .tmp u]) (g : Nat) (cs : Array Value)
    (hp : a.tmps.getD p undef = .pointer (some ⟨g, 0, none⟩)) (hg : w.heap[g]? = some (.cells cs 184 (0, 0))) (hc : cs.size = 4) (hdf : a.defers = [])
    (hR : R (.returned (.tuple #[.agg cs, a.tmps.getD u undef])) w) : bodyPost Tryz.prog fn R .ret a w :=
  bodyPost_ret (results_s2 h a.tmps w g cs hp hg hc) hdf hR
/-- An atom in its row. -/
theorem AtIs.atom {w : World} {B : Nat} {v : Value} {us : List Value} {A : List Atm} (h : AtIs w B v us A) {k : Nat} {a : Atm} (ha : A[k]? = some a) :
    ∃ ga c u, v = .slice (some ⟨ga, 0, none⟩) A.length c ∧ ga < w.heap.size ∧ (∀ j y, (atC u a)[j]? = some y → w.cell? ⟨ga, k * 6 + j, none⟩ = some y) ∧ w.ownsRow B 234 2 u a.sp.length (spC a.sp) := by
  have hk := (List.getElem?_eq_some_iff.mp ha).1
  rcases h.row.2 with ⟨e1, e2⟩ | ⟨g, cap, cur, e1, hB, hh, hn, hc, hs, ht⟩
  · omega
  · have ho : v.ownBlock = some g := by rw [e1]; rfl
    obtain ⟨u, hu⟩ : ∃ u, us[k]? = some u := ⟨us[k]'(by rw [h.len]; exact hk), List.getElem?_eq_getElem _⟩
    refine ⟨g, cap, u, e1, (h.row.lt g ho).2, fun j y hj => ?_, h.sp k u a hu ha⟩
    have hj6 : j < 6 := (List.getElem?_eq_some_iff.mp hj).1
    have := h.row.cells (g := g) ho (k * 6 + j) y (by rw [atsC_get us A k u a hu ha j hj6]; exact hj)
    rwa [add_flat] at this
structure StIs (W wr : World) (g8 : Nat) (x : Nat) : Prop where
  box : wr.heap[g8]? = some (.cells (setL x).toArray 184 (0, 0))
  mv : Mv (fun k => k = g8) W wr
theorem StIs.below {W wr w2 : World} {g8 x : Nat} (k : StIs W wr g8 x) (h : RowKit.Below wr.heap.size wr w2) : StIs W w2 g8 x :=
  ⟨(h.block _ (blk_lt k.box)).trans k.box, k.mv.trans (Mv.of_below h _) fun _ _ h => h⟩
theorem StIs.set {W wr w2 : World} {g8 x : Nat} (k : StIs W wr g8 x) (h : RowKit.Below wr.heap.size wr w2) (y : Nat) :
    StIs W ((((w2.setCell ⟨g8, 0, none⟩ (.int .u64 (wd y 0 : Nat))).setCell ⟨g8, 1, none⟩ (.int .u64 (wd y 1 : Nat))).setCell ⟨g8, 2, none⟩ (.int .u64 (wd y 2 : Nat))).setCell ⟨g8, 3, none⟩ (.int .u64 (wd y 3 : Nat))) g8 y := by
  have k2 := k.below h
  have hb := set_blk (set_blk (set_blk (set_blk k2.box 0 (.int .u64 (wd y 0 : Nat))) 1 (.int .u64 (wd y 1 : Nat))) 2 (.int .u64 (wd y 2 : Nat))) 3 (.int .u64 (wd y 3 : Nat))
  refine ⟨by simpa [setL] using hb, (((k2.mv.setCell (fun _ => rfl) _).setCell (fun _ => rfl) _).setCell (fun _ => rfl) _).setCell (fun _ => rfl) _⟩
theorem stepF_step (next last : Nat) (c : Int) {A : List Atm} {k : Nat} {a : Atm} (h : A[k]? = some a) (r : Nat × Bool) : stepF next last c k (A.drop k) r = stepF next last c (k + 1) (A.drop (k + 1)) (if next.testBit k && takesP a.sp a.neg c then (r.1 ||| a.next, r.2 || last.testBit k) else r) := by
  have hk := List.getElem?_eq_some_iff.mp h
  rw [List.drop_eq_getElem_cons hk.1, hk.2]
  rfl
section
set_option maxHeartbeats 3200000
set_option maxRecDepth 100000
theorem step_any (b : Nat) (s : ByteArray) (t : Re) (next : Nat) (c : Int) (w : World) (h : RexIs w b s t) :
    Calls Tryz.prog 135 #[.pointer (some ⟨b, 0, none⟩), setV next, .int .i32 c] w fun e w' => e = .returned (.tuple #[setV (stepF next (compP t []).1.last c 0 (compP t []).2 (0, false)).1, .bool (stepF next (compP t []).1.last c 0 (compP t []).2 (0, false)).2]) ∧ RowKit.Below w.heap.size w w' := by
  obtain ⟨⟨v, us, hbx, hat⟩, hfew⟩ := h
  -- spans are few
  obtain ⟨X, hX⟩ : ∃ X, (compP t []).1 = X := ⟨_, rfl⟩
  obtain ⟨A, hA⟩ : ∃ A, (compP t []).2 = A := ⟨_, rfl⟩
  rw [hX, hA]
  rw [hX] at hbx
  rw [hA] at hat hfew
  obtain ⟨Rx, hRx⟩ : ∃ Rx, stepF next X.last c 0 A (0, false) = Rx := ⟨_, rfl⟩
  rw [hRx]
  obtain ⟨W, hW⟩ : ∃ W, W = ((w.alloc (.cells #[.int .u64 (wd next 0 : Nat), .int .u64 (wd next 1 : Nat), .int .u64 (wd next 2 : Nat), .int .u64 (wd next 3 : Nat)] 184)).alloc (.cells #[.int .u64 0, .int .u64 0, .int .u64 0, .int .u64 0] 184)).alloc (.cells #[.int .u64 0, .int .u64 0, .int .u64 0, .int .u64 0] 184) := ⟨_, rfl⟩
  obtain ⟨g8, hg8⟩ : ∃ g8, g8 = w.heap.size + 1 + 1 := ⟨_, rfl⟩
  have hb : RowKit.Below w.heap.size w W := by rw [hW]; exact (((RowKit.Below.refl _ w).alloc (Nat.le_refl _) _).alloc (by simp) _).alloc (by simp; omega) _
  have h2 : W.heap[w.heap.size]? = some (.cells #[.int .u64 (wd next 0 : Nat), .int .u64 (wd next 1 : Nat), .int .u64 (wd next 2 : Nat), .int .u64 (wd next 3 : Nat)] 184 (0, 0)) := by
    rw [hW, Below.heap_alloc _ _ _ (by simp; omega), Below.heap_alloc _ _ _ (by simp)]; exact heap_alloc_new _ _
  have h3 : W.heap[w.heap.size + 1]? = some (.cells #[.int .u64 0, .int .u64 0, .int .u64 0, .int .u64 0] 184 (0, 0)) := by
    rw [hW, Below.heap_alloc _ _ _ (by simp)]; exact heap_alloc_new2 _ _ _
  have h4 : W.heap[g8]? = some (.cells #[.int .u64 0, .int .u64 0, .int .u64 0, .int .u64 0] 184 (0, 0)) := by
    have := heap_alloc_new ((w.alloc (.cells #[.int .u64 (wd next 0 : Nat), .int .u64 (wd next 1 : Nat), .int .u64 (wd next 2 : Nat), .int .u64 (wd next 3 : Nat)] 184)).alloc (.cells #[.int .u64 0, .int .u64 0, .int .u64 0, .int .u64 0] 184)) (.cells #[.int .u64 0, .int .u64 0, .int .u64 0, .int .u64 0] 184)
    rw [hW, hg8]; simpa using this
  have hblt := blk_lt hbx
  have hS0 : StIs W W g8 0 := ⟨by rw [h4]; simp [setL, wd], Mv.refl _ _⟩
  have hbW := (hb.block _ hblt).trans hbx
  have hs : ∀ W1, Mv (fun k => k = g8) W W1 → W1.cell? ⟨w.heap.size, 0, none⟩ = some (.int .u64 (wd next 0 : Nat)) ∧ W1.cell? ⟨w.heap.size, 1, none⟩ = some (.int .u64 (wd next 1 : Nat)) ∧ W1.cell? ⟨w.heap.size, 2, none⟩ = some (.int .u64 (wd next 2 : Nat)) ∧ W1.cell? ⟨w.heap.size, 3, none⟩ = some (.int .u64 (wd next 3 : Nat)) ∧ W1.cell? ⟨b, 2, none⟩ = some v ∧ W1.cell? ⟨b, 7, none⟩ = some (.int .u64 (wd X.last 0 : Nat)) ∧ W1.cell? ⟨b, 8, none⟩ = some (.int .u64 (wd X.last 1 : Nat)) ∧ W1.cell? ⟨b, 9, none⟩ = some (.int .u64 (wd X.last 2 : Nat)) ∧ W1.cell? ⟨b, 10, none⟩ = some (.int .u64 (wd X.last 3 : Nat)) ∧ W1.heap[w.heap.size + 1]? = some (.cells #[.int .u64 0, .int .u64 0, .int .u64 0, .int .u64 0] 184 (0, 0)) := fun W1 m => by
    have k2 := (m.block _ (blk_lt h2) (by omega)).trans h2
    have k3 := (m.block _ (blk_lt h3) (by omega)).trans h3
    have kb := (m.block _ (blk_lt hbW) (by omega)).trans hbW
    refine ⟨?_, ?_, ?_, ?_, ?_, ?_, ?_, ?_, ?_, k3⟩ <;> first | (rw [cell_blk k2]; rfl) | (rw [cell_blk kb]; rfl)
  have hatm : ∀ (k : Nat) (a : Atm), A[k]? = some a → ∃ ga cc u, v = .slice (some ⟨ga, 0, none⟩) A.length cc ∧ ∀ W1, Mv (fun k => k = g8) W W1 → ((∀ j y, (atC u a)[j]? = some y → W1.cell? ⟨ga, k * 6 + j, none⟩ = some y) ∧ W1.ownsRow 0 234 2 u a.sp.length (spC a.sp)) := fun k a ha => by
    obtain ⟨ga, cc, u, e1, e2, e3, e4⟩ := hat.atom ha
    refine ⟨ga, cc, u, e1, fun W1 m => ?_⟩
    have m1 : Mv (fun k => w.heap.size ≤ k) w W1 := (Mv.of_below hb _).trans m fun i hi e => by omega
    refine ⟨fun j y hj => ?_, own_mv e4 m1 fun k hk e => by have := (e4.lt k hk).2; omega⟩
    have := e3 j y hj
    rw [cell_mv m1 this (by simp only; omega)]; exact this
  obtain ⟨Av, cv, hv, -, -, -⟩ := own_rdg hat.row
  have b2 := cell_blk hbx 2
  rw [show (rexC s v X)[2]? = some v from rfl, hv] at b2
  have HS := Lib.hid hs; have HATM := Lib.hid hatm; have HB := Lib.hid hb; have HS0 := Lib.hid hS0; have HW := Lib.hid hW; have HRX := Lib.hid hRx; have HV := Lib.hid hv
  have HBN := Lib.hid hblt
  have hbn1 : b ≠ w.heap.size := by omega
  have hbn2 : b ≠ w.heap.size + 1 := by omega
  have hbn3 : b ≠ w.heap.size + 1 + 1 := by omega
  have hbn4 : b ≠ w.heap.size + 2 := by omega
  have hbl1 : b < w.heap.size + 1 := by omega
  have hbl2 : b < w.heap.size + 1 + 1 := by omega
  have hbl3 : b < w.heap.size + 2 := by omega
  obtain ⟨n, hn⟩ : ∃ n, n = A.length := ⟨_, rfl⟩
  rw [← hn] at b2 hfew
  have HN := Lib.hid hn
  clear hs hatm hb hS0 hW hRx hv h2 h3 h4 hbW hbx hat hX hA hn
  have HGW := Lib.hid hg8
  subst hg8
  unfold setV setL
  go_enter Tryz.func135, Tryz.ntmps135
  go_wp2_with fail
  rw [← HW.out]
  obtain ⟨g8, hg8⟩ : ∃ g8, g8 = w.heap.size + 1 + 1 := ⟨_, rfl⟩
  rw [← hg8] at HS HATM HS0 ⊢
  have HG8 := Lib.hid hg8
  clear hg8 HGW
  go_loopw [9, 16] (fun s9 s16 wr => ∃ (k x : Nat) (en : Bool), s9 = .bool en ∧ s16 = .int .i64 k ∧ k ≤ n ∧ Aside (StIs W wr g8 x) ∧ Aside (stepF next X.last c k (A.drop k) (x, en) = Rx)) (fun _ s16 _ => n - (intOf s16).toNat)
  case atStart => exact ⟨0, 0, false, rfl, rfl, by omega, HS0.out, HRX.out⟩
  case round =>
    obtain ⟨k, x, en, rfl, rfl, hk, HK, HE⟩ := hrel
    obtain ⟨c0, c1, c2, c3, d2, d7, d8, d9, d10, hz⟩ := HS.out wr HK.out.mv
    have HZ6 := Lib.hid hz
    clear hz
    by_cases hlt : k < n
    · have k1 : (k : Int) < (n : Int) := by omega
      have k0 : (0 : Int) ≤ (k : Int) := by omega
      obtain ⟨a, ha⟩ := folK_get_len (L := A) (k := k) (by have := HN.out; omega)
      have hE := HE.out
      rw [stepF_step next X.last c ha] at hE
      obtain ⟨ga, cc, u, e1, e2⟩ := HATM.out k a ha
      have HAV := Lib.hid (show v = .slice (some ⟨ga, 0, none⟩) n cc by rw [e1, ← HN.out])
      rw [HAV.out] at d2
      have HAT := Lib.hid e2
      have HH := Lib.hid (has_lit next k (by omega) wr)
      clear ha e1 e2
      cases hbit : next.testBit k with
      | false =>
        rw [hbit] at HH hE
        have HE2 := Lib.hid hE
        clear hE HE d7 d8 d9 d10
        go_wp2_with fail
        refine HH.out.mono ?_
        rintro e w1 ⟨rfl, hb1⟩
        go_wp2
        go_roundw
        case rel => exact ⟨k + 1, x, en, rfl, by go_num, by omega, (show Aside _ from HK.out.below hb1), (show Aside _ from HE2.out)⟩
        case measure => simp [intOf]; omega
      | true =>
        rw [hbit] at HH hE
        have HTK := Lib.hid (fun (W1 : World) (m : Mv (fun k => k = g8) W W1) => takes_any ga (k * 6) a u c W1 0 ((HAT.out W1 m).1 0 _ rfl) ((HAT.out W1 m).1 1 _ rfl) (HAT.out W1 m).2)
        have HST := Lib.hid (show ∀ W1, RowKit.Below wr.heap.size wr W1 → StIs W W1 g8 x from fun W1 m => HK.out.below m)
        cases htk : takesP a.sp a.neg c with
        | false =>
          rw [htk] at HTK hE
          have HE2 := Lib.hid hE
          clear hE HE d7 d8 d9 d10
          go_wp2_with fail
          refine HH.out.mono ?_
          rintro e w1 ⟨rfl, hb1⟩
          clear c0 c1 c2 c3 d2
          have hk1 := HST.out w1 hb1
          obtain ⟨c0, c1, c2, c3, d2, d7, d8, d9, d10, -⟩ := HS.out w1 hk1.mv
          rw [HAV.out] at d2
          have HTK1 := Lib.hid (HTK.out w1 hk1.mv)
          have HK1 := Lib.hid hk1
          clear hk1 d7 d8 d9 d10 hb1
          go_wp2_with fail
          refine HTK1.out.mono ?_
          rintro e w2 ⟨rfl, hb2⟩
          go_wp2
          go_roundw
          case rel => exact ⟨k + 1, x, en, rfl, by go_num, by omega, (show Aside _ from HK1.out.below hb2), (show Aside _ from HE2.out)⟩
          case measure => simp [intOf]; omega
        | true =>
          rw [htk] at HTK hE
          have HE2 := Lib.hid hE
          have HNX := Lib.hid (fun (W1 : World) (m : Mv (fun k => k = g8) W W1) => (⟨(HAT.out W1 m).1 2 _ rfl, (HAT.out W1 m).1 3 _ rfl, (HAT.out W1 m).1 4 _ rfl, (HAT.out W1 m).1 5 _ rfl⟩ : W1.cell? ⟨ga, k * 6 + 2, none⟩ = some (.int .u64 (wd a.next 0 : Nat)) ∧ W1.cell? ⟨ga, k * 6 + 2 + 1, none⟩ = some (.int .u64 (wd a.next 1 : Nat)) ∧ W1.cell? ⟨ga, k * 6 + 2 + 2, none⟩ = some (.int .u64 (wd a.next 2 : Nat)) ∧ W1.cell? ⟨ga, k * 6 + 2 + 3, none⟩ = some (.int .u64 (wd a.next 3 : Nat))))
          clear hE HE d7 d8 d9 d10
          generalize a.next = nx at HE2 HNX
          have hl2 := fun i => has_lit X.last k (by omega : k < 256)
          have HLA := Lib.hid (fun W1 => has_lit X.last k (by omega : k < 256) W1)
          clear hl2
          go_wp2_with fail
          refine HH.out.mono ?_
          rintro e w1 ⟨rfl, hb1⟩
          clear c0 c1 c2 c3 d2
          have hk1 := HST.out w1 hb1
          obtain ⟨c0, c1, c2, c3, d2, d7, d8, d9, d10, -⟩ := HS.out w1 hk1.mv
          rw [HAV.out] at d2
          have HTK1 := Lib.hid (HTK.out w1 hk1.mv)
          have HK1 := Lib.hid hk1
          clear hk1 d7 d8 d9 d10 hb1
          go_wp2_with fail
          refine HTK1.out.mono ?_
          rintro e w2 ⟨rfl, hb2⟩
          have hk2 := HK1.out.below hb2
          have HK2 := Lib.hid hk2
          clear c0 c1 c2 c3 d2 hb2 HK1 HTK1
          obtain ⟨c0, c1, c2, c3, d2, d7, d8, d9, d10, -⟩ := HS.out w2 hk2.mv
          rw [HAV.out] at d2
          obtain ⟨n0, n1, n2, n3⟩ := HNX.out w2 hk2.mv
          have y0 := cell_blk hk2.box 0
          have y1 := cell_blk hk2.box 1
          have y2 := cell_blk hk2.box 2
          have y3 := cell_blk hk2.box 3
          have yf := fun i => free_blk hk2.box i
          simp only [setL, List.getElem?_toArray, List.getElem?_cons_zero, List.getElem?_cons_succ] at y0 y1 y2 y3
          have HBB := Lib.hid (RowKit.Below.refl w2.heap.size w2)
          have hbg : b ≠ g8 := by have := HBN.out; have := HG8.out; omega
          clear hk2
          go_wp2_with fail
          go_region_law (first
            | (go_simp; go_at_call 161; go_must ((with_reducible refine (with_lit _ _ _).mono ?_); rintro e wq ⟨rfl, hbq⟩; (try (have hq1 := undrew hbq; clear hbq; have hbq := hq1; clear hq1)); have hq1 := HBB.out.trans (hbq.mono HBB.out.size); have hkq := HK2.out.below hq1; have HBQ := Lib.hid hq1; have HKQ := Lib.hid hkq; have z0 := cell_blk hkq.box 0; have z1 := cell_blk hkq.box 1; have z2 := cell_blk hkq.box 2; have z3 := cell_blk hkq.box 3; have zf := fun i => free_blk hkq.box i; simp only [setL, List.getElem?_toArray, List.getElem?_cons_zero, List.getElem?_cons_succ] at z0 z1 z2 z3; obtain ⟨-, -, -, -, f2, f7, f8, f9, f10, -⟩ := HS.out wq hkq.mv; rw [HAV.out] at f2; clear hq1 hbq hkq))
            | fail)
          all_goals
            cases en with
            | true =>
              go_wp2
              go_roundw
              case rel => exact ⟨k + 1, x ||| nx, true, rfl, by go_num, by omega, (show Aside _ from HK2.out.set HBQ.out (x ||| nx)), (show Aside _ from HE2.out)⟩
              case measure => simp [intOf]; omega
            | false =>
              go_wp2_with fail
              refine (HLA.out _).mono ?_
              rintro e w5 ⟨rfl, hb5⟩
              go_wp2
              go_roundw
              case rel => exact ⟨k + 1, x ||| nx, _, rfl, by go_num, by omega, (show Aside _ from (HK2.out.set HBQ.out (x ||| nx)).below hb5), (show Aside _ from HE2.out)⟩
              case measure => simp [intOf]; omega
    · obtain rfl : k = n := by omega
      have hE := HE.out
      rw [HN.out, List.drop_length] at hE
      have hRx : Rx = (x, en) := hE.symm
      have HRX2 := Lib.hid hRx
      have y0 := cell_blk HK.out.box 0
      have y1 := cell_blk HK.out.box 1
      have y2 := cell_blk HK.out.box 2
      have y3 := cell_blk HK.out.box 3
      simp only [setL, List.getElem?_toArray, List.getElem?_cons_zero, List.getElem?_cons_succ] at y0 y1 y2 y3
      have q0 := cell_blk HZ6.out 0
      have q1 := cell_blk HZ6.out 1
      have q2 := cell_blk HZ6.out 2
      have q3 := cell_blk HZ6.out 3
      have qf := fun i => free_blk HZ6.out i
      simp only [List.getElem?_toArray, List.getElem?_cons_zero, List.getElem?_cons_succ] at q0 q1 q2 q3
      clear hE hRx HE c0 c1 c2 c3 d2 d7 d8 d9 d10
      go_wp2
      have hb6 := set_blk (set_blk (set_blk (set_blk HZ6.out 0 (.int .u64 (wd x 0 : Nat))) 1 (.int .u64 (wd x 1 : Nat))) 2 (.int .u64 (wd x 2 : Nat))) 3 (.int .u64 (wd x 3 : Nat))
      refine post_s2 rfl (w.heap.size + 1) _ rfl hb6 rfl rfl ?_
      rw [HRX2.out]
      refine ⟨rfl, ?_⟩
      have m1 : Mv (fun k => w.heap.size ≤ k) w wr := (Mv.of_below HB.out _).trans HK.out.mv fun i hi e => by have := HG8.out; omega
      exact ((((m1.setCell (fun _ => Nat.le_succ _) _).setCell (fun _ => Nat.le_succ _) _).setCell (fun _ => Nat.le_succ _) _).setCell (fun _ => Nat.le_succ _) _).belowB (Nat.le_refl _) fun k hk h => by omega
end
end
section
set_option linter.unusedVariables false
set_option linter.unusedSimpArgs false
open Go.RowKit
/-- A set within the atoms. -/
def Bits (x : Nat) : Prop := ∀ i, x.testBit i = true → i < 256
theorem bits_zero {x : Nat} (h : Bits x) (h0 : wd x 0 = 0) (h1 : wd x 1 = 0) (h2 : wd x 2 = 0) (h3 : wd x 3 = 0) : x = 0 := by
  apply Nat.eq_of_testBit_eq
  intro i
  rw [Nat.zero_testBit]
  cases hb : x.testBit i with
  | false => rfl
  | true =>
    have hi := h i hb
    have hk : i / 64 < 4 := by omega
    have hw : wd x (i / 64) = 0 := by
      match i / 64, hk with
      | 0, _ => exact h0
      | 1, _ => exact h1
      | 2, _ => exact h2
      | 3, _ => exact h3
    have := wd_bit x (i / 64) (i % 64)
    rw [hw, Nat.zero_testBit, show 64 * (i / 64) + i % 64 = i from Nat.div_add_mod i 64, hb] at this
    simp at this
    omega
theorem comp_bits (t : Re) (h : (compP t []).2.length ≤ 256) : Bits (compP t []).1.first ∧ ∀ (i : Nat) (a : Atm), (compP t []).2[i]? = some a → Bits a.next := by
  obtain ⟨g, _⟩ := comp_gl t []
  refine ⟨fun i hi => by have := (g.first i hi).2; omega, fun i a ha j hj => ?_⟩
  have := (g.closed i j (Nat.zero_le _) ⟨a, ha, hj⟩).2
  omega
theorem step_bits (next last : Nat) (c : Int) (A : List Atm) (h : ∀ (i : Nat) (a : Atm), A[i]? = some a → Bits a.next) : Bits (stepF next last c 0 A (0, false)).1 := by
  intro k hk
  rcases ((stepF_spec next last c A 0 (0, false)).1 k).1 hk with e | ⟨d, a, ha, _, _, hb⟩
  · simp at e
  · exact h d a ha k hb
theorem eq_set (a b c d : Int) (w : World) : (Op.equalIn 10000 184 (.agg #[.int .u64 a, .int .u64 b, .int .u64 c, .int .u64 d]) (.agg #[.int .u64 0, .int .u64 0, .int .u64 0, .int .u64 0])).run Tryz.prog w = .ok (decide (a = 0 ∧ b = 0 ∧ c = 0 ∧ d = 0)) w := by
  have hc : Tryz.prog.cellsOf 23 = 1 := by kernel_rfl
  obtain ⟨i0, hi, _⟩ := info_g (show (Tryz.prog.info? 23).map (fun i => (i.zero, i.size, i.bytes)) = some (some (.int .u64 0), 1, 8) from by kernel_rfl)
  rw [run_equalIn_array (d := 9999) (w := w) _ _ Tryz.underlying184 hi, hc]
  simp [List.range, List.range.loop, Op.eqItems, go_sem]
  by_cases h0 : a = 0 <;> by_cases h1 : b = 0 <;> by_cases h2 : c = 0 <;> by_cases h3 : d = 0 <;> simp [h0, h1, h2, h3]
section
set_option maxHeartbeats 3200000
set_option maxRecDepth 100000
/-- A match under way: the set in block g5, the iterator behind it. -/
structure MaIs (w wr : World) (s : ByteArray) (x pos : Nat) : Prop where
  box : wr.heap[w.heap.size]? = some (.cells (setL x).toArray 184 (0, 0))
  it : wr.heap[w.heap.size + 1]? = some (.stringIter s pos)
  below : RowKit.Below w.heap.size w wr
  le : pos ≤ s.size
  bits : Bits x
theorem MaIs.set {w w3 : World} {s : ByteArray} {x x2 pos : Nat} (h1 : w3.heap[w.heap.size]? = some (.cells (setL x).toArray 184 (0, 0))) (h2 : w3.heap[w.heap.size + 1]? = some (.stringIter s pos)) (h3 : RowKit.Below w.heap.size w w3) (hle : pos ≤ s.size) (hb : Bits x2) :
    MaIs w ((((w3.setCell ⟨w.heap.size, 0, none⟩ (.int .u64 (wd x2 0 : Nat))).setCell ⟨w.heap.size, 1, none⟩ (.int .u64 (wd x2 1 : Nat))).setCell ⟨w.heap.size, 2, none⟩ (.int .u64 (wd x2 2 : Nat))).setCell ⟨w.heap.size, 3, none⟩ (.int .u64 (wd x2 3 : Nat))) s x2 pos := by
  have k := set_blk (set_blk (set_blk (set_blk h1 0 (.int .u64 (wd x2 0 : Nat))) 1 (.int .u64 (wd x2 1 : Nat))) 2 (.int .u64 (wd x2 2 : Nat))) 3 (.int .u64 (wd x2 3 : Nat))
  have m : Mv (fun k => k = w.heap.size) w3 ((((w3.setCell ⟨w.heap.size, 0, none⟩ (.int .u64 (wd x2 0 : Nat))).setCell ⟨w.heap.size, 1, none⟩ (.int .u64 (wd x2 1 : Nat))).setCell ⟨w.heap.size, 2, none⟩ (.int .u64 (wd x2 2 : Nat))).setCell ⟨w.heap.size, 3, none⟩ (.int .u64 (wd x2 3 : Nat))) :=
    ((((Mv.refl (fun k => k = w.heap.size) w3).setCell (p := ⟨w.heap.size, 0, none⟩) (fun _ => rfl) _).setCell (p := ⟨w.heap.size, 1, none⟩) (fun _ => rfl) _).setCell (p := ⟨w.heap.size, 2, none⟩) (fun _ => rfl) _).setCell (p := ⟨w.heap.size, 3, none⟩) (fun _ => rfl) _
  exact ⟨by simpa [setL] using k, (m.block _ (blk_lt h2) (by omega)).trans h2, h3.trans (m.belowB h3.size fun k hk e => by omega), hle, hb⟩
theorem match_any (b : Nat) (st : ByteArray) (t : Re) (s : ByteArray) (w : World) (h : RexIs w b st t) :
    Calls Tryz.prog 111 #[.pointer (some ⟨b, 0, none⟩), .string s] w fun e w' => e = .returned (.bool (matchP (compP t []).1 (compP t []).2 (runesB (bl s)))) ∧ RowKit.Below w.heap.size w w' := by
  obtain ⟨T, hT⟩ : ∃ T, matchP (compP t []).1 (compP t []).2 (runesB (bl s)) = T := ⟨_, rfl⟩
  rw [hT]
  unfold matchP at hT
  obtain ⟨hbf, hba⟩ := comp_bits t h.few
  have HSTEP := Lib.hid (fun (x : Nat) (c : Int) (W : World) (m : RowKit.Below w.heap.size w W) => step_any b st t x c W (h.below m))
  have HSB := Lib.hid (fun (x : Nat) (c : Int) => step_bits x (compP t []).1.last c _ hba)
  obtain ⟨v, us, hbx, -⟩ := h.box
  obtain ⟨X, hX⟩ : ∃ X, (compP t []).1 = X := ⟨_, rfl⟩
  obtain ⟨A, hA⟩ : ∃ A, (compP t []).2 = A := ⟨_, rfl⟩
  rw [hX] at HSTEP HSB hbx hT hbf
  rw [hA] at HSTEP HSB hT
  have b0 := cell_blk hbx 0
  have b3 := cell_blk hbx 3; have b4 := cell_blk hbx 4; have b5 := cell_blk hbx 5; have b6 := cell_blk hbx 6; have b11 := cell_blk hbx 11
  simp only [rexC, List.getElem?_toArray, List.getElem?_cons_zero, List.getElem?_cons_succ] at b0 b3 b4 b5 b6 b11
  have hlt := blk_lt hbx
  have hbn1 : b ≠ w.heap.size := by omega
  have hbn2 : b ≠ w.heap.size + 1 := by omega
  have HT := Lib.hid hT; have HBF := Lib.hid hbf
  clear hT hbf hba hbx hX hA h
  obtain ⟨f, la, em⟩ := X
  simp only at b3 b4 b5 b6 b11 HT HBF HSTEP HSB
  go_enter Tryz.func111, Tryz.ntmps111
  go_wp2_with fail
  go_region
  all_goals go_wp2_with fail
  go_loopw [6] (fun s6 wr => ∃ (x pos : Nat) (en : Bool), s6 = .bool en ∧ Aside (MaIs w wr s x pos) ∧ Aside (matchF A la (runesB ((bl s).drop pos)) x en = T)) (fun _ wr => s.size - wr.iterPos (w.heap.size + 1))
  case atStart =>
    refine ⟨f, 0, em, rfl, ⟨?_, ?_, ?_, Nat.zero_le _, HBF.out⟩, by rw [List.drop_zero]; exact HT.out⟩
    · show ((w.alloc (.cells #[.int .u64 (wd f 0 : Nat), .int .u64 (wd f 1 : Nat), .int .u64 (wd f 2 : Nat), .int .u64 (wd f 3 : Nat)] 184)).drew.alloc (.stringIter s 0)).heap[w.heap.size]? = _
      rw [Below.heap_alloc _ _ _ (by show w.heap.size < (w.alloc _).heap.size; simp)]
      exact heap_alloc_new w _
    · have := World.iter_heap (w.alloc (.cells #[.int .u64 (wd f 0 : Nat), .int .u64 (wd f 1 : Nat), .int .u64 (wd f 2 : Nat), .int .u64 (wd f 3 : Nat)] 184)).drew s 0
      rw [show ((w.alloc (.cells #[.int .u64 (wd f 0 : Nat), .int .u64 (wd f 1 : Nat), .int .u64 (wd f 2 : Nat), .int .u64 (wd f 3 : Nat)] 184)).drew).heap.size = w.heap.size + 1 from by show (w.alloc _).heap.size = _; simp] at this
      exact this
    · exact (below_drew ((RowKit.Below.refl _ w).alloc (Nat.le_refl _) _)).alloc (by show w.heap.size ≤ (w.alloc _).heap.size; simp) _
  case round =>
    obtain ⟨x, pos, en, rfl, HK, HE⟩ := hrel
    have hit := HK.out.it
    have hle := HK.out.le
    by_cases hp : pos < s.size
    · have hne : (bl s).drop pos ≠ [] := by
        intro e
        have := congrArg List.length e
        rw [List.length_drop, bl_len] at this
        simp at this; omega
      have hdd : dL ((bl s).drop pos) = Utf8.decode s pos := Lib.decodeL_drop s pos
      have hE := HE.out
      rw [runesB_step hne, List.drop_drop] at hE
      obtain ⟨c, wd', hcw⟩ : ∃ c wd, dL ((bl s).drop pos) = (c, wd) := ⟨_, _, rfl⟩
      have hwd : 1 ≤ wd' := by have := dL_pos ((bl s).drop pos); rw [hcw] at this; exact this
      have hwl : pos + wd' ≤ s.size := by have := dL_le hne; rw [hcw, List.length_drop, bl_len] at this; simp only at this; omega
      rw [hcw] at hE
      simp only [matchF] at hE
      obtain ⟨w2, hw2⟩ : ∃ w2, w2 = wr.iterAt (w.heap.size + 1) s (pos + wd') := ⟨_, rfl⟩
      have hnx : ∀ ty, (Instr.next (.pointer (some ⟨w.heap.size + 1, 0, none⟩)) true ty).run Tryz.prog wr = .ok (.tuple #[.bool true, .int .i64 (pos : Nat), .int .i32 (c : Nat)]) w2 := fun ty => by
        rw [Lib.run_next_any_at wr (w.heap.size + 1) s pos ty hit hp, ← hdd, hcw, hw2]
      have hK2 : MaIs w w2 s x (pos + wd') := ⟨by rw [hw2, Lib.iterAt_other _ _ _ _ _ (by omega)]; exact HK.out.box, by rw [hw2]; exact Lib.iterAt_heap wr _ s pos _ hit, by rw [hw2]; exact Lib.below_iterAt HK.out.below (by omega) s _, hwl, HK.out.bits⟩
      have y0 := cell_blk hK2.box 0
      have y1 := cell_blk hK2.box 1
      have y2 := cell_blk hK2.box 2
      have y3 := cell_blk hK2.box 3
      simp only [setL, List.getElem?_toArray, List.getElem?_cons_zero, List.getElem?_cons_succ] at y0 y1 y2 y3
      have heq := eq_set (wd x 0 : Nat) (wd x 1 : Nat) (wd x 2 : Nat) (wd x 3 : Nat)
      have HKK := Lib.hid hK2; have HP := Lib.hid hp; have HIT := Lib.hid hit; have HWD := Lib.hid hwd
      clear hne hdd hcw hwd hwl hw2 hK2 hit
      by_cases hx : x = 0
      · subst hx
        rw [if_pos rfl] at hE
        have hz : ∀ u, (Op.equalIn 10000 184 (.agg #[.int .u64 (wd 0 0 : Nat), .int .u64 (wd 0 1 : Nat), .int .u64 (wd 0 2 : Nat), .int .u64 (wd 0 3 : Nat)]) (.agg #[.int .u64 0, .int .u64 0, .int .u64 0, .int .u64 0])).run Tryz.prog u = .ok true u := fun u => by rw [heq]; simp [wd]
        have HTT := Lib.hid hE
        clear heq hE
        go_wp2
        go_ret
        rw [← HTT.out]
        exact ⟨rfl, HKK.out.below⟩
      · rw [if_neg hx] at hE
        have hz : ∀ u, (Op.equalIn 10000 184 (.agg #[.int .u64 (wd x 0 : Nat), .int .u64 (wd x 1 : Nat), .int .u64 (wd x 2 : Nat), .int .u64 (wd x 3 : Nat)]) (.agg #[.int .u64 0, .int .u64 0, .int .u64 0, .int .u64 0])).run Tryz.prog u = .ok false u := fun u => by
          rw [heq]
          congr 1
          rw [decide_eq_false]
          rintro ⟨e0, e1, e2, e3⟩
          exact hx (bits_zero HKK.out.bits (by omega) (by omega) (by omega) (by omega))
        have HE2 := Lib.hid hE
        have HS := Lib.hid (HSTEP.out x (c : Int) w2 HKK.out.below)
        have HBI := Lib.hid (HSB.out x (c : Int))
        unfold setV setL at HS
        clear heq hE HE hx
        obtain ⟨R2, hR2⟩ : ∃ R2, stepF x la (c : Int) 0 A (0, false) = R2 := ⟨_, rfl⟩
        rw [hR2] at HS HE2 HBI
        clear hR2
        obtain ⟨x2, en2⟩ := R2
        simp only at HS HE2 HBI
        go_wp2_with fail
        refine HS.out.mono ?_
        rintro e w3 ⟨rfl, hb3⟩
        have hb7 := (hb3.block _ (blk_lt HKK.out.box)).trans HKK.out.box
        have hi7 := (hb3.block _ (blk_lt HKK.out.it)).trans HKK.out.it
        have z0 := cell_blk hb7 0
        have z1 := cell_blk hb7 1
        have z2 := cell_blk hb7 2
        have z3 := cell_blk hb7 3
        have zf := fun i => free_blk hb7 i
        simp only [setL, List.getElem?_toArray, List.getElem?_cons_zero, List.getElem?_cons_succ] at z0 z1 z2 z3
        have HB7 := Lib.hid hb7; have HI7 := Lib.hid hi7; have HBB := Lib.hid (HKK.out.below.trans (hb3.mono HKK.out.below.size))
        clear hb7 hi7 hb3 y0 y1 y2 y3
        have hset := MaIs.set HB7.out HI7.out HBB.out HKK.out.le HBI.out
        have HSET := Lib.hid hset
        clear hset
        go_wp2
        go_roundw
        case rel => exact ⟨x2, _, en2, rfl, HSET.out, HE2.out⟩
        case measure =>
          have i1 := HSET.out.it
          have i2 := HIT.out
          have i3 := HWD.out
          have i4 := HP.out
          simp only [World.iterPos, i1, i2]
          omega
    · obtain rfl : pos = s.size := by omega
      have hnx : ∀ ty, (Instr.next (.pointer (some ⟨w.heap.size + 1, 0, none⟩)) true ty).run Tryz.prog wr = .ok (.tuple #[.bool false]) wr := fun ty => Lib.run_next_end_at wr (w.heap.size + 1) s _ ty hit hp
      have hE := HE.out
      rw [List.drop_eq_nil_of_le (by rw [bl_len]; exact Nat.le_refl _), runesB_nil] at hE
      have HTT := Lib.hid (show en = T from hE)
      clear hE HE hit
      go_wp2
      go_ret
      rw [HTT.out]
      exact ⟨rfl, HK.out.below⟩
end
end
end
end Go.Proofs.YtjgappbomohlcaaGreatDoor
