/-
  An index and the plain answers' beside each other: what an operation on both comes to.
-/
import Derived.Test.YtjgappbomohlcaaGreatDoorKPqv
import Derived.Test.YtjgappbomohlcaaGreatDoorKPyb
import Derived.Test.YtjgappbomohlcaaGreatDoorK02
namespace Go.Proofs.YtjgappbomohlcaaGreatDoor
section
set_option linter.unusedVariables false
set_option linter.unusedSimpArgs false
open Go.RowKit
/-- Both indexes behind a world w0, all of theirs in T. -/
structure Two (w0 w : World) (xb p : Nat) (T : Nat → Prop) (L M : List Ser) : Prop where
  ex : ∃ G S v ys, IxE w xb L G ∧ RixE w p S v ys ∧ ys.map rsv = M ∧ (∀ k, G.tg k ≠ .no → T k) ∧ (∀ k, S k → T k) ∧ ∀ k, S k → G.tg k = .no
  al : ∀ k, T k → k < w.heap.size
  lo : ∀ k, T k → w0.heap.size ≤ k
  bel : Below w0.heap.size w0 w
def TwoOut (w0 w : World) (xb p : Nat) (T : Nat → Prop) (L M : List Ser) (w' : World) : Prop := ∃ T', Two w0 w' xb p T' L M ∧ Mv T w w' ∧ ∀ k, T' k → T k ∨ w.heap.size ≤ k
section
variable {w0 w w1 : World} {xb p : Nat} {T : Nat → Prop} {L M : List Ser}
theorem Two.moved (h : Two w0 w xb p T L M) (hs : Mv (fun k => ¬ T k ∧ w0.heap.size ≤ k) w w1) : Two w0 w1 xb p T L M where
  ex := by
    obtain ⟨G, S, v, ys, h1, h2, h3, h4, h5, h6⟩ := h.ex
    exact ⟨G, S, v, ys, h1.moved hs.size fun k hk => hs.block k (h.al k (h4 k hk)) (fun e => e.1 (h4 k hk)), h2.moved hs.size fun k hk => hs.block k (h.al k (h5 k hk)) (fun e => e.1 (h5 k hk)), h3, h4, h5, h6⟩
  al k hk := Nat.lt_of_lt_of_le (h.al k hk) hs.size
  lo := h.lo
  bel := h.bel.trans (hs.belowB h.bel.size fun k hk e => by omega)
theorem Two.below (h : Two w0 w xb p T L M) (hb : Below w.heap.size w w1) : Two w0 w1 xb p T L M := h.moved (Mv.of_below hb _)
theorem Two.out (h : Two w0 w xb p T L M) (hm : Mv T w w1) {L' M' : List Ser} (hx : ∃ G S v ys, IxE w1 xb L' G ∧ RixE w1 p S v ys ∧ ys.map rsv = M' ∧ (∀ k, G.tg k ≠ .no → T k ∨ w.heap.size ≤ k) ∧ (∀ k, S k → T k ∨ w.heap.size ≤ k) ∧ ∀ k, S k → G.tg k = .no) : TwoOut w0 w xb p T L' M' w1 := by
  obtain ⟨G, S, v, ys, h1, h2, h3, h4, h5, h6⟩ := hx
  have hbs := h.bel.size
  refine ⟨fun k => T k ∨ (w.heap.size ≤ k ∧ k < w1.heap.size), ⟨⟨G, S, v, ys, h1, h2, h3, fun k hk => ?_, fun k hk => ?_, h6⟩, fun k hk => ?_, fun k hk => ?_, h.bel.trans (hm.belowB hbs fun k hk e => by have := h.lo k e; omega)⟩, hm, fun k hk => ?_⟩
  · rcases h4 k hk with h | h
    · exact .inl h
    · exact .inr ⟨h, h1.al k hk⟩
  · rcases h5 k hk with h | h
    · exact .inl h
    · exact .inr ⟨h, h2.al k hk⟩
  · rcases hk with hk | hk
    · exact Nat.lt_of_lt_of_le (h.al k hk) hm.size
    · exact hk.2
  · rcases hk with hk | hk
    · exact h.lo k hk
    · omega
  · rcases hk with hk | hk
    · exact .inl hk
    · exact .inr hk.1
theorem Two.wf (h : Two w0 w xb p T L M) : Wf L := by
  obtain ⟨G, S, v, ys, h1, _⟩ := h.ex
  exact h1.wf
theorem TwoOut.two (h : TwoOut w0 w xb p T L M w1) : ∃ T', Two w0 w1 xb p T' L M ∧ Mv T w w1 ∧ ∀ k, T' k → T k ∨ w.heap.size ≤ k := h
/-- What the program's index did. -/
theorem Two.first {L' : List Ser} (h : Two w0 w xb p T L M) {G : Gh} {S : Nat → Prop} {v : Value} {ys : List RSr} (h2 : RixE w p S v ys) (h3 : ys.map rsv = M) (h4 : ∀ k, G.tg k ≠ .no → T k) (h5 : ∀ k, S k → T k) (h6 : ∀ k, S k → G.tg k = .no) (ho : IxOut w xb G L' w1) : TwoOut w0 w xb p T L' M w1 := by
  obtain ⟨G', i1, m1, s1⟩ := ho
  refine h.out (m1.mono fun i _ e => h4 i e) ⟨G', S, v, ys, i1, h2.moved m1.size fun k hk => m1.block k (h2.al k hk) (fun e => e (h6 k hk)), h3, fun k hk => ?_, fun k hk => .inl (h5 k hk), fun k hk => ?_⟩
  · rcases s1 k hk with e | e
    · exact .inl (h4 k e)
    · exact .inr e
  · refine Classical.byContradiction fun e => ?_
    rcases s1 k e with e | e
    · exact e (h6 k hk)
    · have := h2.al k hk; omega
/-- What the plain one did. -/
theorem Two.second {M' : List Ser} (h : Two w0 w xb p T L M) {G : Gh} {S : Nat → Prop} (h1 : IxE w xb L G) (h4 : ∀ k, G.tg k ≠ .no → T k) (h5 : ∀ k, S k → T k) (h6 : ∀ k, S k → G.tg k = .no) (ho : RixOut w p S M' w1) : TwoOut w0 w xb p T L M' w1 := by
  obtain ⟨S', v', ys', i1, e1, m1, s1⟩ := ho
  refine h.out (m1.mono fun i _ e => h5 i e) ⟨G, S', v', ys', h1.moved m1.size fun k hk => m1.block k (h1.al k hk) (fun e => hk (h6 k e)), i1, e1, fun k hk => .inl (h4 k hk), fun k hk => ?_, fun k hk => ?_⟩
  · rcases s1 k hk with e | e
    · exact .inl (h5 k e)
    · exact .inr e
  · rcases s1 k hk with e | e
    · exact h6 k e
    · exact Classical.byContradiction fun e2 => by have := h1.al k e2; omega
theorem two_cut1 (h : Two w0 w xb p T L M) (hT : Tabs w0) {n : Nat} (hn : n < 18446744073709551616) :
    Calls Tryz.prog 44 #[.pointer (some ⟨xb, 0, none⟩), .int .u64 (n : Nat)] w fun e w' => e = .returned (.int .i64 (cutC L n : Nat)) ∧ TwoOut w0 w xb p T (cutL L n) M w' := by
  obtain ⟨G, S, v, ys, h1, h2, h3, h4, h5, h6⟩ := h.ex
  exact (icut_any h1 (hT.below h.bel) hn).mono fun e w' ⟨e1, ho⟩ => ⟨e1, h.first h2 h3 h4 h5 h6 ho⟩
theorem two_cut2 (h : Two w0 w xb p T L M) (hM : Wf M) {n : Nat} (hn : n < 18446744073709551616) :
    Calls Tryz.prog 45 #[.pointer (some ⟨p, 0, none⟩), .int .u64 (n : Nat)] w fun e w' => e = .returned (.int .i64 (cutC M n : Nat)) ∧ TwoOut w0 w xb p T L (cutL M n) w' := by
  obtain ⟨G, S, v, ys, h1, h2, rfl, h4, h5, h6⟩ := h.ex
  exact (rcut_any h2 hM hn).mono fun e w' ⟨e1, ho⟩ => ⟨e1, h.second h1 h4 h5 h6 ho⟩
theorem two_add1 (h : Two w0 w xb p T L M) (hT : Tabs w0) {n : Nat} (hn : n < 18446744073709551616) (A : Option Addr) (c : Nat) (l : List Lb) (hx : Rd w A (lcells l)) (hA : ∀ b, A.map (·.block) = some b → ¬ T b) (hf : Few l) :
    Calls Tryz.prog 38 #[.pointer (some ⟨xb, 0, none⟩), .int .u64 (n : Nat), .slice A l.length c] w fun e w' => e = .returned (.int .i64 (addC L n l : Nat)) ∧ TwoOut w0 w xb p T (addL L n l) M w' := by
  obtain ⟨G, S, v, ys, h1, h2, h3, h4, h5, h6⟩ := h.ex
  exact (iadd_any h1 (hT.below h.bel) hn A c l hx (fun b hb => Classical.byContradiction fun e => hA b hb (h4 b e)) hf).mono fun e w' ⟨e1, ho⟩ => ⟨e1, h.first h2 h3 h4 h5 h6 ho⟩
theorem two_add2 (h : Two w0 w xb p T L M) {n : Nat} (hn : n < 18446744073709551616) (A : Option Addr) (c : Nat) (l : List Lb) (hx : Rd w A (lcells l)) (hf : Few l) :
    Calls Tryz.prog 46 #[.pointer (some ⟨p, 0, none⟩), .int .u64 (n : Nat), .slice A l.length c] w fun e w' => e = .returned (.int .i64 (addC M n l : Nat)) ∧ TwoOut w0 w xb p T L (addL M n l) w' := by
  obtain ⟨G, S, v, ys, h1, h2, rfl, h4, h5, h6⟩ := h.ex
  exact (radd_any h2 hn A c l hx hf).mono fun e w' ⟨e1, ho⟩ => ⟨e1, h.second h1 h4 h5 h6 ho⟩
end
theorem two_trans {w0 w W w9 w10 : World} {xb p : Nat} {T T9 : Nat → Prop} {L M : List Ser} (hb : Below w.heap.size w W) (m9 : Mv T W w9) (s9 : ∀ k, T9 k → T k ∨ W.heap.size ≤ k) (o : TwoOut w0 w9 xb p T9 L M w10) : TwoOut w0 w xb p T L M w10 := by
  obtain ⟨T10, h10, m10, s10⟩ := o
  refine ⟨T10, h10, ((Mv.of_below hb T).trans m9 fun i _ e => e).trans m10 fun i hi e => ?_, fun k hk => ?_⟩
  · rcases s9 i e with h | h
    · exact h
    · have := hb.size; omega
  · rcases s10 k hk with h | h
    · rcases s9 k h with h | h
      · exact .inl h
      · exact .inr (Nat.le_trans hb.size h)
    · exact .inr (Nat.le_trans hb.size (Nat.le_trans m9.size h))
def opL (L : List Ser) (o : OpP) : List Ser := if o.cut = true then cutL L o.ref else addL L o.ref o.ls
section
set_option maxHeartbeats 6400000
set_option maxRecDepth 100000
theorem does_any {w0 w : World} {xb p : Nat} {T : Nat → Prop} {L : List Ser} (h : Two w0 w xb p T L L) (hT : Tabs w0) (o : OpP) (hr : o.ref < 18446744073709551616) (hx : Rd w o.A (lcells o.ls)) (hA : 0 < o.ls.length → ∀ b, o.A.map (·.block) = some b → ¬ T b) (hf : Few o.ls) :
    Calls Tryz.prog 15 #[.pointer (some ⟨xb, 0, none⟩), .pointer (some ⟨p, 0, none⟩), .agg #[.bool o.cut, .int .u64 (o.ref : Nat), .slice o.A o.ls.length o.c]] w fun e w' => e = .returned (.bool true) ∧ TwoOut w0 w xb p T (opL L o) (opL L o) w' := by
  obtain ⟨ct, n, A, c, ls⟩ := o
  simp only at hr hx hA hf ⊢
  obtain ⟨W, hW⟩ : ∃ W, W = w.alloc (.cells #[.bool ct, .int .u64 (n : Nat), .slice A ls.length c] 36) := ⟨_, rfl⟩
  have hb0 : Below w.heap.size w W := by rw [hW]; exact (Below.refl _ w).alloc (Nat.le_refl _) _
  have hbx : W.heap[w.heap.size]? = some (.cells #[.bool ct, .int .u64 (n : Nat), .slice A ls.length c] 36 (0, 0)) := by rw [hW]; exact heap_alloc_new w _
  have hTW := h.below hb0
  have hnT : ¬ T w.heap.size := fun e => Nat.lt_irrefl _ (h.al _ e)
  have d0 := cell_blk hbx 0; have d1 := cell_blk hbx 1; have d2 := cell_blk hbx 2
  simp only [List.getElem?_toArray, List.getElem?_cons_succ, List.getElem?_cons_zero] at d0 d1 d2
  have hwf := h.wf
  have HWF := Lib.hid hwf
  have HTT := Lib.hid hT
  have HB0 := Lib.hid hb0
  have HBX := Lib.hid hbx
  have HW := Lib.hid hW
  have HH := Lib.hid h
  cases ct with
  | true =>
    have hop : opL L ⟨true, n, A, c, ls⟩ = cutL L n := rfl
    rw [hop]
    have hd := hTW.below (show Below W.heap.size W W.drew from ⟨rfl, rfl, rfl, Nat.le_refl _, fun _ _ => rfl⟩)
    have HTW := Lib.hid hd
    have e1 : W.drew.cell? ⟨w.heap.size, 1, none⟩ = some (.int .u64 (n : Nat)) := d1
    have HTN := Lib.hid (show ¬ T w.heap.size ∧ w.heap.size < W.heap.size from ⟨hnT, lt_of_block hbx⟩)
    clear h hT hx hA hf hW hb0 hbx hTW hnT hwf hop hd
    have hx1 := fun (W : World) (T : Nat → Prop) (M : List Ser) (h : Two w0 W xb p T L M) => two_cut1 h HTT.out hr
    have hy1 := fun (W : World) (T : Nat → Prop) (N : List Ser) (h : Two w0 W xb p T N L) => two_cut2 h HWF.out hr
    obtain ⟨C, hC⟩ : ∃ C, C = cutC L n := ⟨_, rfl⟩
    obtain ⟨L', hL'⟩ : ∃ L', L' = cutL L n := ⟨_, rfl⟩
    rw [← hC, ← hL'] at hx1 hy1
    rw [← hL']
    have g1 : ((C : Int) == (C : Int)) = true := beq_self_eq_true _
    have HX1 := Lib.hid hx1; have HY1 := Lib.hid hy1
    have HBW := Lib.hid (show Below w.heap.size w W.drew from ⟨HB0.out.os, HB0.out.tape, HB0.out.output, HB0.out.size, HB0.out.block⟩)
    clear hx1 hy1 hC hL'
    go_enter Tryz.func15, Tryz.ntmps15
    go_upto_region 2 with fail
    rw [← HW.out]
    go_region_with (first
      | (go_at_call 44
         refine (HX1.out _ _ _ HY2.out).mono ?_
         rintro e w10 ⟨rfl, ho⟩
         have HF := Lib.hid (two_trans HBW.out HM9.out HS9.out ho)
         clear ho)
      | (go_at_call 44
         refine (HX1.out _ _ _ HTW.out).mono ?_
         rintro e w9 ⟨rfl, T9, h9, m9, s9⟩
         have e9 := cell_blk ((m9.block _ HTN.out.2 HTN.out.1).trans HBX.out) 1
         simp only [List.getElem?_toArray, List.getElem?_cons_succ, List.getElem?_cons_zero] at e9
         have HX2 := Lib.hid h9; have HM9 := Lib.hid m9; have HS9 := Lib.hid s9
         clear h9 m9 s9)
      | (go_at_call 45
         refine (HY1.out _ _ _ HX2.out).mono ?_
         rintro e w10 ⟨rfl, ho⟩
         have HF := Lib.hid (two_trans HBW.out HM9.out HS9.out ho)
         clear ho)
      | (go_at_call 45
         refine (HY1.out _ _ _ HTW.out).mono ?_
         rintro e w9 ⟨rfl, T9, h9, m9, s9⟩
         have e9 := cell_blk ((m9.block _ HTN.out.2 HTN.out.1).trans HBX.out) 1
         simp only [List.getElem?_toArray, List.getElem?_cons_succ, List.getElem?_cons_zero] at e9
         have HY2 := Lib.hid h9; have HM9 := Lib.hid m9; have HS9 := Lib.hid s9
         clear h9 m9 s9)
      | fail)
    all_goals
      go_wp2_with fail
      go_ret
      exact ⟨by first | rfl | kernel_rfl, HF.out⟩
  | false =>
    have hop : opL L ⟨false, n, A, c, ls⟩ = addL L n ls := rfl
    rw [hop]
    have HTN := Lib.hid (show ¬ T w.heap.size ∧ w.heap.size < W.heap.size from ⟨hnT, lt_of_block hbx⟩)
    have HTW0 := Lib.hid hTW
    have HXO := Lib.hid (hx.below hb0)
    have HAO := Lib.hid hA
    have HFE := Lib.hid hf
    have hfl := hf.1
    obtain ⟨C, hC⟩ : ∃ C, C = addC L n ls := ⟨_, rfl⟩
    obtain ⟨L', hL'⟩ : ∃ L', L' = addL L n ls := ⟨_, rfl⟩
    have hx1 := fun (W : World) (T : Nat → Prop) (M : List Ser) (h : Two w0 W xb p T L M) (A4 : Option Addr) (c4 : Nat) (hx : Rd W A4 (lcells ls)) (hA : ∀ b, A4.map (·.block) = some b → ¬ T b) => two_add1 h HTT.out hr A4 c4 ls hx hA HFE.out
    have hy1 := fun (W : World) (T : Nat → Prop) (N : List Ser) (h : Two w0 W xb p T N L) (hx : Rd W A (lcells ls)) => two_add2 h hr A c ls hx HFE.out
    rw [← hC, ← hL'] at hx1 hy1
    rw [← hL']
    have HX1 := Lib.hid hx1; have HY1 := Lib.hid hy1
    clear hx1 hy1 hC hL' h hT hx hA hf hW hb0 hbx hTW hnT hwf hop
    go_enter Tryz.func15, Tryz.ntmps15
    go_upto_region 3 with fail
    rw [← HW.out]
    have d2' := cell_blk ((Below.heap_alloc W (.cells #[] 80) _ HTN.out.2).trans HBX.out) 2
    simp only [List.getElem?_toArray, List.getElem?_cons_succ, List.getElem?_cons_zero] at d2'
    go_upto_region 4 with (first
      | (at_builtin
         refine wpList_append_lb rfl (.tmp 21) (.tmp 23) rfl rfl W.heap.size _ [] rfl (own_empty_l W) A c ls rfl (HXO.out.alloc _) (by simp; omega) (by simp) ?_
         intro v4 w4 own4 grow4
         rw [List.nil_append] at own4
         have hb4 : Below W.heap.size W w4 := ((Below.refl _ W).alloc (Nat.le_refl _) _).grown grow4 (by simp) (fun g hg => ((own_empty_l W).lt g hg).1)
         obtain ⟨A4, c4, hv4, hr4⟩ := own_rdL own4
         subst hv4
         have HO4 := Lib.hid own4; have HB4 := Lib.hid hb4; have HR4 := Lib.hid hr4
         clear own4 grow4 hb4 hr4)
      | fail)
    have hbd : Below W.heap.size W w4.drew := ⟨HB4.out.os, HB4.out.tape, HB4.out.output, HB4.out.size, HB4.out.block⟩
    have htw := HTW0.out.below hbd
    have hown : ∀ b, A4.map (·.block) = some b → W.heap.size ≤ b ∧ b < w4.heap.size := fun b hb => by
      rcases HO4.out.2 with ⟨e, _⟩ | ⟨g, cap, cur, e, hB, hg, _⟩
      · injection e with e; rw [e] at hb; cases hb
      · injection e with e; rw [e] at hb; injection hb with hb; subst hb; exact ⟨hB, blk_lt hg⟩
    have hnA : ∀ b, A4.map (·.block) = some b → ¬ T b := fun b hb e => by have := HTW0.out.al b e; have := (hown b hb).1; omega
    have e1 := cell_blk (w := w4.drew) ((hbd.block _ HTN.out.2).trans HBX.out) 1
    have e2 := cell_blk (w := w4.drew) ((hbd.block _ HTN.out.2).trans HBX.out) 2
    simp only [List.getElem?_toArray, List.getElem?_cons_succ, List.getElem?_cons_zero] at e1 e2
    have HTW := Lib.hid htw
    have HBW := Lib.hid (show Below w.heap.size w w4.drew from HB0.out.trans (hbd.mono HB0.out.size))
    have HRO := Lib.hid (show Rd w4.drew A4 (lcells ls) from HR4.out)
    have HRA := Lib.hid (show Rd w4.drew A (lcells ls) from HXO.out.below hbd)
    have HOWN := Lib.hid hown
    have HNA := Lib.hid hnA
    have HBX4 := Lib.hid (show w4.drew.heap[w.heap.size]? = some (.cells #[.bool false, .int .u64 (n : Nat), .slice A ls.length c] 36 (0, 0)) from (hbd.block _ HTN.out.2).trans HBX.out)
    have HL4 := Lib.hid (show w.heap.size < w4.drew.heap.size from Nat.lt_of_lt_of_le HTN.out.2 hbd.size)
    clear hbd htw hown hnA d0 d1 d2 d2'
    have g1 : ((C : Int) == (C : Int)) = true := beq_self_eq_true _
    go_cut [8] (fun s8 wx => ∃ T10, s8 = .bool true ∧ Aside (Two w0 wx xb p T10 L' L') ∧ Aside (Mv T w wx) ∧ Aside (∀ k, T10 k → T k ∨ w.heap.size ≤ k) ∧ Aside (∀ b, A4.map (·.block) = some b → ¬ T10 b ∧ wx.heap[b]? = w4.heap[b]?))
    case first =>
      go_region_with (first
        | (go_at_call 38
           refine (HX1.out _ _ _ HY2.out A4 c4 HRO2.out HNA2.out).mono ?_
           rintro e w10 ⟨rfl, ho⟩
           have HF := Lib.hid ho
           clear ho)
        | (go_at_call 38
           refine (HX1.out _ _ _ HTW.out A4 c4 HRO.out HNA.out).mono ?_
           rintro e w9 ⟨rfl, T9, h9, m9, s9⟩
           have e9 := cell_blk ((m9.block _ HL4.out HTN.out.1).trans HBX4.out) 1
           have e9' := cell_blk ((m9.block _ HL4.out HTN.out.1).trans HBX4.out) 2
           simp only [List.getElem?_toArray, List.getElem?_cons_succ, List.getElem?_cons_zero] at e9 e9'
           have HX2 := Lib.hid h9; have HM9 := Lib.hid m9; have HS9 := Lib.hid s9
           have HRA2 := Lib.hid (Mv.rd0 m9 HRA.out fun h0 b hb => HAO.out (by rw [lcells_len] at h0; omega) b hb)
           clear h9 m9 s9)
        | (go_at_call 46
           refine (HY1.out _ _ _ HX2.out HRA2.out).mono ?_
           rintro e w10 ⟨rfl, ho⟩
           have HF := Lib.hid ho
           clear ho)
        | (go_at_call 46
           refine (HY1.out _ _ _ HTW.out HRA.out).mono ?_
           rintro e w9 ⟨rfl, T9, h9, m9, s9⟩
           have e9 := cell_blk ((m9.block _ HL4.out HTN.out.1).trans HBX4.out) 1
           have e9' := cell_blk ((m9.block _ HL4.out HTN.out.1).trans HBX4.out) 2
           simp only [List.getElem?_toArray, List.getElem?_cons_succ, List.getElem?_cons_zero] at e9 e9'
           have HY2 := Lib.hid h9; have HM9 := Lib.hid m9; have HS9 := Lib.hid s9
           have HRO2 := Lib.hid (Mv.rd0 m9 HRO.out fun _ b hb => HNA.out b hb)
           have HNA2 := Lib.hid (show ∀ b, A4.map (·.block) = some b → ¬ T9 b from fun b hb e => by
             rcases s9 b e with h | h
             · exact HNA.out b hb h
             · have h1 := (HOWN.out b hb).2; have h2 : w4.drew.heap.size = w4.heap.size := rfl; omega)
           clear h9 m9 s9)
        | fail)
      all_goals
        go_wp2_with fail
        go_meet
        obtain ⟨T10, h10, m10, s10⟩ := HF.out
        obtain ⟨T11, -, m11, -⟩ := two_trans HBW.out HM9.out HS9.out ⟨T10, h10, m10, s10⟩
        have hz4 : w4.drew.heap.size = w4.heap.size := rfl
        have hz0 := HBW.out.size
        have hz9 := HM9.out.size
        have hn9 : ∀ b, A4.map (·.block) = some b → ¬ _ := fun b hb (e : _) => by
          rcases HS9.out b e with h | h
          · exact HNA.out b hb h
          · have h1 := (HOWN.out b hb).2; omega
        refine ⟨T10, rfl, (show Aside _ from h10), (show Aside _ from m11), (show Aside _ from fun k hk => ?_), (show Aside _ from fun b hb => ⟨fun e => ?_, ?_⟩)⟩
        · rcases s10 k hk with h | h
          · rcases HS9.out k h with h | h
            · exact .inl h
            · exact .inr (by omega)
          · exact .inr (by omega)
        · rcases s10 b e with h | h
          · exact hn9 b hb h
          · have h1 := (HOWN.out b hb).2; omega
        · have h1 := (HOWN.out b hb).2
          exact (m10.block b (by omega) (hn9 b hb)).trans (HM9.out.block b (by omega) (HNA.out b hb))
    case rest =>
      obtain ⟨T10, rfl, H10, M10, S10, G10⟩ := hcut
      have hsmall : ∀ x ∈ ls, x.2.size ≤ 6000 := fun x hx => (HFE.out.2 x hx).2
      have HSM := Lib.hid hsmall
      have hst : ls.length = 0 ∨ ∃ g cur, A4 = some ⟨g, 0, none⟩ ∧ wc.heap[g]? = some (.cells cur 80 (0, 0)) ∧ ∀ (j : Nat) (hj : j < ls.length), 0 ≤ j → cur[j * 2 + 1]? = some (.string ls[j].2) := by
        rcases HO4.out.2 with ⟨_, e⟩ | ⟨g, cap, cur, e, hB, hg, hnc, hcm, hcs, htk⟩
        · exact .inl e
        · injection e with e
          refine .inr ⟨g, cur, e, ((G10.out g (by rw [e]; rfl)).2).trans hg, fun j hj _ => ?_⟩
          have h1 := lcells_snd ls j hj
          rw [← htk, List.getElem?_take, if_pos (by omega), Array.getElem?_toList] at h1
          exact h1
      have HST := Lib.hid hst
      clear hsmall hst
      go_wp2_with fail
      go_loopw [39] (fun s39 wr => ∃ k : Nat, s39 = .int .i64 k ∧ k ≤ ls.length ∧ Aside (Two w0 wr xb p T10 L' L') ∧ Aside (Mv T w wr) ∧ Aside (ls.length = 0 ∨ ∃ g cur, A4 = some ⟨g, 0, none⟩ ∧ wr.heap[g]? = some (.cells cur 80 (0, 0)) ∧ ∀ (j : Nat) (hj : j < ls.length), k ≤ j → cur[j * 2 + 1]? = some (.string ls[j].2))) (fun s39 _ => ls.length - (intOf s39).toNat)
      case atStart => exact ⟨0, rfl, Nat.zero_le _, H10, M10, (show Aside _ from HST.out)⟩
      case round =>
        obtain ⟨k, rfl, hk, HK, MK, CK⟩ := hrel
        have k0 : (0 : Int) ≤ (k : Int) := by omega
        by_cases hlt : k < ls.length
        · have k1 : (k : Int) < (ls.length : Int) := by omega
          rcases CK.out with h0 | ⟨g, cur, hA4, hg, hcur⟩
          · omega
          have hc := hcur k hlt (Nat.le_refl _)
          have hx2 := HSM.out _ (List.getElem_mem hlt)
          have c1 := cell_blk hg (k * 2 + 1)
          rw [hc] at c1
          have q1 := free_blk hg (k * 2 + 1)
          have HCU := Lib.hid hcur
          have HGG := Lib.hid hg
          have hown := HOWN.out g (by rw [hA4]; rfl)
          have hgT := (G10.out g (by rw [hA4]; rfl)).1
          have HA4 := Lib.hid hA4
          generalize ls[k].2 = x at c1 hx2 hc
          have n1 : ¬ 9223372036854775807 < x.size + 1 := by omega
          have n2 : ¬ 9223372036854775807 < x.size + (⟨#[120]⟩ : ByteArray).size := by show ¬ _ < x.size + 1; omega
          clear hcur hg CK hc
          rw [hA4]
          go_wp2_with fail
          go_roundw
          case rel =>
            refine ⟨k + 1, by go_num, by omega, ?_, ?_, ?_⟩
            · exact (show Aside _ from HK.out.moved ((Mv.refl _ wr).setCell (p := ⟨g, k * 2 + 1, none⟩) (fun _ => ⟨hgT, by show _ ≤ g; have := hown.1; have := HB0.out.size; have := H10.out.bel.size; have := HH.out.bel.size; omega⟩) _))
            · exact (show Aside _ from MK.out.setCell (p := ⟨g, k * 2 + 1, none⟩) (fun (hl : g < w.heap.size) => absurd hl (by have := hown.1; have := HB0.out.size; omega)) _)
            · refine (show Aside _ from .inr ⟨g, _, rfl, set_blk HGG.out (k * 2 + 1) _, fun j hj hkj => ?_⟩)
              rw [Array.getElem?_setIfInBounds_ne (by omega)]
              exact HCU.out j hj (by omega)
          case measure => simp [intOf]; omega
        · obtain rfl : k = ls.length := by omega
          go_wp2_with fail
          go_ret
          exact ⟨rfl, T10, HK.out, MK.out, S10.out⟩
end
end
end Go.Proofs.YtjgappbomohlcaaGreatDoor
