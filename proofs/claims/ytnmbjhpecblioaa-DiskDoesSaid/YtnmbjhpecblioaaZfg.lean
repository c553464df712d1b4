/-
  The plain answers' disk: Swap.
-/
import Derived.BigQuiet
import Derived.Test.YtnmbjhpecblioaaZfe
namespace Go.Proofs.Ytnmbjhpecblioaa
set_option linter.unusedVariables false
set_option linter.unusedSimpArgs false
open Go.RowKit
theorem ins_len (x : Fl) : ∀ L : List Fl, (insL x L).length = L.length + 1
  | [] => rfl
  | y :: r => by
    unfold insL
    split
    · rfl
    · rw [List.length_cons, ins_len x r, List.length_cons]
theorem put_len (L : List Fl) (x : Fl) : (putL L x).length ≤ L.length + 1 := by
  unfold putL
  rw [ins_len]
  have := List.length_filter_le (fun f : Fl => !decide (f.1 = x.1)) L
  unfold delL; omega
theorem del_lt {L : List Fl} {s : ByteArray} {f : Fl} (h : lookL L s = some f) : (delL L s).length + 1 ≤ L.length := by
  have hm := List.mem_of_find?_eq_some h
  have hs := List.find?_some h
  unfold delL
  have := (List.length_filter_lt_length_iff_exists (l := L) (p := fun f => !decide (f.1 = s))).2 ⟨f, hm, by simpa using hs⟩
  omega
theorem ins_sum (x : Fl) : ∀ L : List Fl, lenL (insL x L) = x.2.1.length + lenL L
  | [] => by simp [insL, lenL]
  | y :: r => by
    unfold insL
    split
    · rw [lenL_cons]
    · rw [lenL_cons, ins_sum x r, lenL_cons]; omega
theorem put_sum (L : List Fl) (x : Fl) : lenL (putL L x) ≤ lenL L + x.2.1.length := by
  unfold putL
  rw [ins_sum]
  have := lenL_sub (List.filter_sublist (l := L) (p := fun f : Fl => !decide (f.1 = x.1)))
  unfold delL; omega
theorem del_sum {s : ByteArray} {f : Fl} : ∀ {L : List Fl}, lookL L s = some f → lenL (delL L s) + f.2.1.length ≤ lenL L
  | y :: r, h => by
    unfold lookL at h
    rw [List.find?_cons] at h
    unfold delL
    rw [List.filter_cons]
    by_cases hy : y.1 = s
    · simp only [hy, decide_true] at h
      injection h with h
      subst h
      rw [if_neg (by simp [hy]), lenL_cons]
      have := lenL_sub (List.filter_sublist (l := r) (p := fun f : Fl => !decide (f.1 = s)))
      omega
    · simp only [hy, decide_false] at h
      rw [if_pos (by simp [hy]), lenL_cons, lenL_cons]
      have := del_sum (L := r) h
      unfold delL at this
      omega
section
set_option maxHeartbeats 1600000
set_option maxRecDepth 100000
variable {w : World} {p room : Nat} {fv : Value} {ys : List RF}
theorem rswap_any (h : RefE w p room fv ys) (s t : ByteArray) (ht : t.size ≤ maxLen) (hp : (ys.map rval).Pairwise fun a b => bl a.1 < bl b.1) : Calls Try.prog 31 #[.pointer (some ⟨p, 0, none⟩), .string s, .string t] w (RefOut2 w p room fv ys (swapD (ys.map rval) s t)) := by
  have HA := Lib.hid (rat_any h s); have H := Lib.hid h; have HP := Lib.hid hp
  have HNM := Lib.hid (fun W => rname_any t W ht)
  clear h hp
  go_enter Try.func31, Try.ntmps31
  go_wp2_with fail
  with_reducible refine HA.out.mono ?_
  rintro e w1 ⟨⟨rfl, hn⟩ | ⟨k, y, hk, hn, rfl⟩, hb1⟩
  · have HB := Lib.hid hb1
    have HL := Lib.hid (lookR_none hn)
    clear hn hb1
    go_wp2
    go_ret
    unfold swapD
    rw [HL.out]
    exact ⟨rfl, ys, fv, rfl, H.out.below HB.out, ⟨HB.out.os, HB.out.tape, HB.out.output, HB.out.size, fun k hk _ => HB.out.block k hk⟩, fun k hk => .inl hk⟩
  · subst hn
    have HL := Lib.hid (lookR_some HP.out hk rfl)
    have HB := Lib.hid hb1
    have h1 := H.out.below hb1
    have H1 := Lib.hid h1
    have hsame : ∀ (r : Int), RefOut2 w p room fv ys (r, ys.map rval) (.returned (.int .i64 r)) w1 := fun r => ⟨rfl, ys, fv, rfl, h1, ⟨hb1.os, hb1.tape, hb1.output, hb1.size, fun k hk _ => hb1.block k hk⟩, fun k hk => .inl hk⟩
    have HSAME := Lib.hid hsame
    have c0 := cell_blk h1.box 0; have c1 := cell_blk h1.box 1
    simp only [List.getElem?_toArray, List.getElem?_cons_succ, List.getElem?_cons_zero] at c0 c1
    have hyb := h1.at_ y (List.mem_of_getElem? hk)
    have HYB := Lib.hid hyb
    have HYE := Lib.hid (h1.each y (List.mem_of_getElem? hk))
    have HYM := Lib.hid (List.mem_of_getElem? hk)
    obtain ⟨A, c, rfl, hr, hc1, hc2⟩ := own_rd_f h1.row
    obtain ⟨b, off, rfl, hcl⟩ := hr.flat fcells_len (by decide) hk
    have hoff : off = 0 := by
      rcases h1.row.2 with ⟨e1, _⟩ | ⟨g', cap', cur, e1, hB, hh, _⟩
      · cases e1
      · injection e1 with e1; injection e1 with e1; injection e1
    subst hoff
    have d0 := hcl 0 _ rfl; have d1 := hcl 1 _ rfl; have d2 := hcl 2 _ rfl
    rw [Nat.zero_add] at d0 d1 d2
    rw [Nat.add_zero] at d0
    obtain ⟨Ay, cy, hyv, -, -, -⟩ := hyb.rd
    rw [hyv] at d1
    obtain ⟨m, hm⟩ : ∃ m, m = y.bs.length := ⟨_, rfl⟩
    rw [← hm] at d1 hyv
    have HYV := Lib.hid hyv; have HM := Lib.hid hm
    have hkl : k < ys.length := (List.getElem?_eq_some_iff.1 hk).1
    have k0 : ¬ (k : Int) < 0 := by omega
    have k00 : (0 : Int) ≤ (k : Int) := by omega
    have k1 : (k : Int) < (ys.length : Int) := by omega
    have k2 : (k : Int) ≤ (c : Int) := by omega
    clear hb1 hk HA h1 hr hcl hyb hyv hm hsame
    go_wp2_with fail
    refine (HNM.out w1).mono ?_
    rintro e w2 ⟨rfl, rfl⟩
    cases hT : titleB (bl t) with
    | false =>
      go_wp2
      go_ret
      unfold swapD
      rw [HL.out]
      simp only [hT, if_true]
      exact HSAME.out _
    | true =>
      by_cases hlt : y.n < m
      · have q1 : (y.n : Int) < (m : Int) := by omega
        have HLT := Lib.hid hlt; clear hlt
        go_wp2
        go_region
        go_wp2
        go_ret
        unfold swapD
        rw [HL.out]
        simp only [hT, (show (rval y).2.2 < (rval y).2.1.length from by show y.n < y.bs.length; rw [← HM.out]; exact HLT.out), if_true, if_false, Bool.true_eq_false]
        obtain ⟨e1, ys', fv', e2, e3, e4, e5⟩ := HSAME.out 7
        exact ⟨e1, ys', fv', e2, e3.below (below_drewN (Below.refl _ w1) 1), e4.drewN 1, e5⟩
      · have q1 : ¬ (y.n : Int) < (m : Int) := by omega
        have HLT := Lib.hid hlt; clear hlt
        have ht32 : t.size ≤ 32 := by
          have := hT
          unfold titleB at this
          simp only [Bool.and_eq_true, decide_eq_true_eq, bl_len] at this
          exact this.1.2
        obtain ⟨W3, hW3⟩ : ∃ W3, W3 = (w1.alloc (.cells #[.string y.nm, .slice Ay m cy, .int .i64 (y.n : Nat)] 66)).drew := ⟨_, rfl⟩
        have hb3 : Below w1.heap.size w1 W3 := by rw [hW3]; exact below_drewN ((Below.refl _ w1).alloc (Nat.le_refl _) _) 1
        have hg3 : W3.heap[w1.heap.size]? = some (.cells #[.string y.nm, .slice Ay m cy, .int .i64 (y.n : Nat)] 66 (0, 0)) := by rw [hW3]; exact heap_alloc_new w1 _
        have hpl := blk_lt H1.out.box
        have HD := Lib.hid (rdrop_any (H1.out.below hb3) y.nm)
        have hfL : lookL (ys.map rval) y.nm = some (rval y) := HL.out
        have hsw : swapD (ys.map rval) y.nm t = (0, putL (delL (ys.map rval) y.nm) (t, y.bs, y.n)) := by
          unfold swapD
          rw [hfL]
          simp only [hT, (show ¬ (rval y).2.2 < (rval y).2.1.length from by show ¬ y.n < y.bs.length; rw [← HM.out]; exact HLT.out), if_false, Bool.true_eq_false]
          rfl
        have HSW := Lib.hid hsw
        have hpr : (putR (dropR ys y.nm) ⟨t, .slice Ay m cy, y.bs, y.n⟩).map rval = putL (delL (ys.map rval) y.nm) (t, y.bs, y.n) := by
          rw [put_rval (by rw [drop_rval]; exact HP.out.sublist List.filter_sublist), drop_rval]; rfl
        have hfit : lenL ((putR (dropR ys y.nm) ⟨t, .slice Ay m cy, y.bs, y.n⟩).map rval) ≤ room ∧ (putR (dropR ys y.nm) ⟨t, .slice Ay m cy, y.bs, y.n⟩).length ≤ 64 := by
          have a1 := put_sum (delL (ys.map rval) y.nm) (t, y.bs, y.n)
          have a2 := del_sum hfL
          have a3 := put_len (delL (ys.map rval) y.nm) (t, y.bs, y.n)
          have a4 := del_lt hfL
          have a5 : (rval y).2.1.length = y.bs.length := rfl
          have a6 := H1.out.fits.1; have a7 := H1.out.fits.2.2
          rw [← hpr, List.length_map] at a3
          rw [List.length_map] at a4
          rw [hpr]
          simp only at a1
          exact ⟨by omega, by omega⟩
        have HFIT := Lib.hid hfit; have HPR := Lib.hid hpr
        have hb13 := HYB.out.moved (w' := W3) fun g hg => hb3.block g (HYB.out.lt hg)
        have HB3 := Lib.hid hb3; have HG3 := Lib.hid hg3; have HW3 := Lib.hid hW3; have HB13 := Lib.hid hb13
        have e0 := cell_blk hg3 0; have e1 := cell_blk hg3 1; have e2 := cell_blk hg3 2
        simp only [List.getElem?_toArray, List.getElem?_cons_succ, List.getElem?_cons_zero] at e0 e1 e2
        clear hb3 hg3 hW3 hfL hsw hpr hfit hb13 HSAME HNM
        go_wp2
        go_region
        go_wp2_with fail
        rw [← HW3.out]
        with_reducible refine HD.out.mono ?_
        rintro e w4 ⟨rfl, fv4, R4, M4, F4⟩
        have hgl := blk_lt HG3.out
        have hg4 := (M4.block w1.heap.size hgl (by omega)).trans HG3.out
        have hnf : ∀ g, footR p fv4 (dropR ys y.nm) g → g ≠ w1.heap.size := fun g hg e => by
          rcases F4 g hg with hf | hf | hf
          · have := H1.out.lt hf; omega
          · omega
          · exact hf
        have hput : RefE (w4.setCell ⟨w1.heap.size, 0, none⟩ (.string t)) p room fv4 (dropR ys y.nm) := R4.moved fun g hg => set_other _ _ _ _ (hnf g hg)
        have hb4 := HB13.out.moved (w' := w4) fun g hg => M4.block g (HB13.out.lt hg) fun e => (HB13.out.ne ((HB3.out.block p hpl).trans H1.out.box) (by decide)) (by rw [← e]; exact hg)
        have hb5 : BytesAt (w4.setCell ⟨w1.heap.size, 0, none⟩ (.string t)) y.v y.bs := hb4.moved fun g hg => set_other _ _ _ _ fun e => hb4.ne hg4 (by decide) (by rw [← e]; exact hg)
        rw [HYV.out] at hb5
        have HP5 := Lib.hid (rput_any hput ⟨t, .slice Ay m cy, y.bs, y.n⟩ Ay m cy rfl hb5 ⟨HYE.out.1, ht32⟩ HFIT.out)
        have m4 : Mv (fun k => k = p) w w4 := (show Mv (fun k => k = p) w w1 from ⟨HB.out.os, HB.out.tape, HB.out.output, HB.out.size, fun k hk _ => HB.out.block k hk⟩).trans ((show Mv (fun k => k = p) w1 W3 from ⟨HB3.out.os, HB3.out.tape, HB3.out.output, HB3.out.size, fun k hk _ => HB3.out.block k hk⟩).trans M4 (fun _ _ h => h)) (fun _ _ h => h)
        have hs1 := HB.out.size
        have m5 : Mv (fun k => k = p) w (w4.setCell ⟨w1.heap.size, 0, none⟩ (.string t)) := ⟨m4.os, m4.tape, m4.output, by rw [set_size]; exact m4.size, fun k hk hn => (set_other _ _ _ _ (by omega)).trans (m4.block k hk hn)⟩
        have M5 := Lib.hid m5; have HF4 := Lib.hid F4; have HSZ := Lib.hid (Nat.le_trans HB3.out.size M4.size)
        have g0 := cell_blk hg4 0; have g1 := cell_blk hg4 1; have g2 := cell_blk hg4 2; have q0 := free_blk hg4 0
        simp only [List.getElem?_toArray, List.getElem?_cons_succ, List.getElem?_cons_zero] at g0 g1 g2
        clear hg4 hnf hput hb4 hb5 m4 m5 R4 M4 F4 HD
        go_wp2_with fail
        with_reducible refine HP5.out.mono ?_
        rintro e w6 ⟨rfl, fv6, R6, M6, F6⟩
        have hfin : RefOut2 w p room (.slice (some ⟨b, 0, none⟩) ys.length c) ys (swapD (ys.map rval) y.nm t) (.returned (.int .i64 0)) w6 := by
          rw [HSW.out]
          refine ⟨rfl, _, fv6, HPR.out, R6, (M5.out.trans M6 (fun _ _ h => h)).mono (fun k _ e => .inl e), fun k hk => ?_⟩
          have hsz := HSZ.out
          rcases F6 k hk with hf | hf | hf
          · rcases HF4.out k hf with hf | hf | hf
            · exact .inl hf
            · have := HB3.out.size; exact .inr (by omega)
            · exact hf.elim
          · rw [set_size] at hf; exact .inr (by omega)
          · exact .inl (.inr (.inr ⟨y, HYM.out, by rw [HYV.out]; exact hf⟩))
        have HF := Lib.hid hfin
        clear hfin R6 M6 F6
        go_wp2
        go_ret
        exact HF.out
end
end Go.Proofs.Ytnmbjhpecblioaa
