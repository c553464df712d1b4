/-
  The point that bytes begin with, behind another one: the program's own takeEntry.
-/
import Derived.Test.YtgogpngobdafaaaDoorJk
namespace Go.Proofs.YtgogpngobdafaaaDoor
set_option linter.unusedVariables false
set_option linter.unusedSimpArgs false
open Go.RowKit
theorem results_en2 {fn : Func} {p u : Tmp} (h : fn.results = #[.cell p 47, .tmp u]) (tmps : Array Value) (w : World) (g : Nat) (cs : Array Value)
    (hp : tmps.getD p undef = .pointer (some ⟨g, 0, none⟩)) (hg : w.heap[g]? = some (.cells cs 47 (0, 0))) (hc : cs.size = 4) :
    (results fn tmps).run Tryd.prog w = .ok (.tuple #[.agg cs, tmps.getD u undef]) w := by
  have hp' : tmps[p]?.getD undef = .pointer (some ⟨g, 0, none⟩) := by simpa using hp
  simp [results, h, hp', asAddr, run_loadVar_row w g 47 47 cs (0, 0) _ hg Tryd.underlying47 rfl (by rw [hc]; kernel_rfl)]
theorem post_en2 {fn : Func} {R : Ending → World → Prop} {a : Act} {w : World} {p u : Tmp} (h : fn.results = #[.cell p 47, .tmp u]) (g : Nat) (cs : Array Value)
    (hp : a.tmps.getD p undef = .pointer (some ⟨g, 0, none⟩)) (hg : w.heap[g]? = some (.cells cs 47 (0, 0))) (hc : cs.size = 4) (hdf : a.defers = [])
    (hR : R (.returned (.tuple #[.agg cs, a.tmps.getD u undef])) w) : bodyPost Tryd.prog fn R .ret a w :=
  bodyPost_ret (results_en2 h a.tmps w g cs hp hg hc) hdf hR
theorem keep_mv {w w' : World} {g b : Nat} {cs : Array Value} {t : TypeId} (m : Mv (fun k => k = g) w w') (h : w.heap[b]? = some (.cells cs t (0, 0))) (hne : b ≠ g) : w'.heap[b]? = some (.cells cs t (0, 0)) := (m.block b (blk_lt h) hne).trans h
theorem mv_two {w w1 w2 : World} {g : Nat} (a : Mv (fun k => k = g) w w1) (b : Mv (fun k => k = g) w1 w2) : Mv (fun k => k = g) w w2 := a.trans b (fun _ _ h => h)
theorem Rdg.mv {w0 w w' : World} {gb ga b : Nat} {A : Option Addr} {c p : Nat} {xs : Bs} (h : Rdg w0 gb ga A c xs p w) (m : Mv (fun k => k = b) w w') (h1 : gb ≠ b) (h2 : ga ≠ b) (h3 : w0.heap.size ≤ b) : Rdg w0 gb ga A c xs p w' :=
  ⟨keep_mv m h.bx h1, keep_mv m h.at_ h2, h.rd, h.be.trans (m.belowB h.be.size (fun k hk e => by omega)), h.hi, h.le, h.lc, h.sm⟩
theorem ad_wrapT (t z : Int) : ad ((IntKind.u64.wrap t).toNat : Nat) z = ad t z := by
  have := IntKind.wrap_u64 (n := t)
  unfold ad
  rw [IntKind.wrap_u64]
  omega
theorem sg_wrap (n : Nat) : IntKind.i64.wrap (n : Int) = sg n := by rw [IntKind.wrap_i64]; rfl
section
set_option maxHeartbeats 3200000
set_option maxRecDepth 100000
theorem te_any (w0 : World) (gb ga : Nat) (A : Option Addr) (c q : Nat) (xs : Bs) (p : En) (w : World) (h : Rdg w0 gb ga A c xs q w) (hp : EnOk p) :
    Calls Tryd.prog 110 #[aggEn p, .func (.func 106) #[] #[.pointer (some ⟨gb, 0, none⟩), .pointer (some ⟨ga, 0, none⟩)], .func (.func 108) #[] #[.pointer (some ⟨gb, 0, none⟩), .pointer (some ⟨ga, 0, none⟩)]] w fun e w' =>
      e = .returned (.tuple #[aggEn (enAt p (xs.drop q)).1, .int .i64 ((enAt p (xs.drop q)).2.2 : Nat)]) ∧
      ((enAt p (xs.drop q)).2.2 = 0 → Rdg w0 gb ga A c xs (q + (enAt p (xs.drop q)).2.1) w') ∧ Mv (fun k => k = ga) w w' := by
  obtain ⟨R, hR⟩ : ∃ R, R = enAt p (xs.drop q) := ⟨_, rfl⟩
  rw [← hR]
  obtain ⟨p1, p2, p3, p4⟩ := p
  obtain ⟨o1, o2, o3, o4, o5⟩ := hp
  simp only at o1 o2 o3 o4 o5
  unfold aggEn boxEn
  simp only
  obtain ⟨w2, hw2⟩ : ∃ w2, w2 = (w.alloc (.cells #[.int .u32 (p1 : Nat), .int .i64 p2, .int .u64 (p3 : Nat), .int .u64 (p4 : Nat)] 47)).alloc (.cells #[.int .u32 0, .int .i64 0, .int .u64 0, .int .u64 0] 47) := ⟨_, rfl⟩
  obtain ⟨b3, hb3⟩ : ∃ b, b = w.heap.size := ⟨_, rfl⟩
  obtain ⟨b6, hb6⟩ : ∃ b, b = w.heap.size + 1 := ⟨_, rfl⟩
  have hE3 : EBox w2 b3 (p1, p2, p3, p4) := by rw [hw2, hb3]; exact (Below.heap_alloc _ _ _ (by simp)).trans (heap_alloc_new w _)
  have hE6 : w2.heap[b6]? = some (.cells (boxEn en0) 47 (0, 0)) := by rw [hw2, hb6]; exact heap_alloc_new2 w _ _
  have hbe : RowKit.Below w.heap.size w w2 := by rw [hw2]; exact ((RowKit.Below.refl _ w).alloc (Nat.le_refl _) _).alloc (by simp) _
  have hrg := h.moved hbe
  have H0B := Lib.hid (show w0.heap.size ≤ w.heap.size from h.be.size)
  have hm2 : Mv (fun k => k = ga) w w2 := Mv.of_below hbe _
  have n3 : b3 ≠ ga := ne_blk hE3 hrg.at_ (by decide)
  have n6 : b6 ≠ ga := ne_blk hE6 hrg.at_ (by decide)
  have H6B := Lib.hid (show w.heap.size ≤ b6 by omega)
  obtain ⟨X0, X1, X2, X3⟩ := hE3.cells
  simp only at X0 X1 X2 X3
  have hn1 := next_any w0 gb ga A c q p1 xs w2 hrg (by omega)
  unfold enAt at hR
  generalize uvS 0 0 (xs.drop q) = U at hn1 hR
  obtain ⟨m1, k1, e1⟩ := U
  simp only at hn1 hR
  obtain ⟨r1, hr1⟩ : ∃ r, r = ad p1 (if e1 = 0 then zagN m1 else 0) := ⟨_, rfl⟩
  have hl1 : r1 < 18446744073709551616 := by rw [hr1]; exact ad_lt _ _
  rw [← hr1] at hn1
  have HW2 := Lib.hid hw2; have HB3 := Lib.hid hb3; have HB6 := Lib.hid hb6
  have HN1 := Lib.hid hn1; have HE3 := Lib.hid hE3; have HE6 := Lib.hid hE6; have HM := Lib.hid hm2; have HR := Lib.hid hR; have HQ1 := Lib.hid hr1
  clear hw2 hb3 hb6 hn1 hE3 hE6 hbe hrg hm2 hR h hr1
  go_enter Tryd.func110, Tryd.ntmps110
  go_wp2_with fail
  rw [← HB6.out, ← HB3.out, ← HW2.out]
  clear X0 X1 X2 X3 HW2 HB3 HB6
  refine (HN1.out).mono ?_
  rintro e w3 ⟨rfl, hrg, hm⟩
  have hE3 : EBox w3 b3 (p1, p2, p3, p4) := keep_mv hm HE3.out n3
  have hE6 := keep_mv hm HE6.out n6
  have hM := mv_two HM.out hm
  obtain ⟨X0, X1, X2, X3⟩ := hE3.cells
  simp only at X0 X1 X2 X3
  have HE3 := Lib.hid hE3; have HE6 := Lib.hid hE6; have HM := Lib.hid hM
  clear hE3 hE6 hM hm HN1
  by_cases he1 : e1 = 0
  · subst he1
    have hR := HR.out
    have hr1 : r1 = ad p1 (zagN m1) := by rw [HQ1.out, if_pos rfl]
    rw [if_neg (by simp), ← hr1] at hR
    clear HR HQ1 hr1
    by_cases hz1 : r1 = 0
    · rw [if_pos (.inl hz1)] at hR
      have g1 : ((r1 : Int) == 0) = true := by rw [hz1]; rfl
      have HR := Lib.hid hR
      clear hR hz1 hrg
      go_wp2_with (first
        | (refine wpList_store_agg (o := ⟨none, _, _, _, _, _⟩) ?_ 47 (.tmp 6) (.tmp 33) ?_ b6 0 [.int .u32 0, .int .i64 0, .int .u64 0, .int .u64 0] ?_ ?_ 47 _ HE6.out (by kernel_rfl) (by show 0 + 4 ≤ 4; decide) (by intro v hv; simp at hv; rcases hv with rfl | rfl | rfl <;> rfl) ?_; rfl; rfl; rfl; rfl; intro w9 hg9 hmv9 hs9)
        | fail)
      refine post_en2 (by rfl) b6 (boxEn en0) (by rfl) hg9 (by rfl) (by rfl) ?_
      refine ⟨by rw [HR.out]; rfl, fun h => absurd h (by rw [HR.out]; simp only; omega), HM.out.trans hmv9 (fun i hi e => by have := H6B.out; omega)⟩
    · have g1 : ((r1 : Int) == 0) = false := by rw [beq_eq_false_iff_ne]; omega
      by_cases hz2 : 4294967295 < r1
      · rw [if_pos (.inr hz2)] at hR
        have g2 : (4294967295 : Int) < (r1 : Int) := by omega
        have HR := Lib.hid hR
        clear hR hz1 hrg
        go_wp2_with (first
          | (refine wpList_store_agg (o := ⟨none, _, _, _, _, _⟩) ?_ 47 (.tmp 6) (.tmp 33) ?_ b6 0 [.int .u32 0, .int .i64 0, .int .u64 0, .int .u64 0] ?_ ?_ 47 _ HE6.out (by kernel_rfl) (by show 0 + 4 ≤ 4; decide) (by intro v hv; simp at hv; rcases hv with rfl | rfl | rfl <;> rfl) ?_; rfl; rfl; rfl; rfl; intro w9 hg9 hmv9 hs9)
          | fail)
        refine post_en2 (by rfl) b6 (boxEn en0) (by rfl) hg9 (by rfl) (by rfl) ?_
        refine ⟨by rw [HR.out]; rfl, fun h => absurd h (by rw [HR.out]; simp only; omega), HM.out.trans hmv9 (fun i hi e => by have := H6B.out; omega)⟩
      · have g2 : ¬ (4294967295 : Int) < (r1 : Int) := by omega
        rw [if_neg (by omega)] at hR
        clear hz1
        obtain ⟨tn, htn⟩ : ∃ t, t = (IntKind.u64.wrap p2).toNat := ⟨_, rfl⟩
        have hT : IntKind.u64.wrap p2 = (tn : Int) := by rw [htn]; have := IntKind.wrap_u64 (n := p2); rw [IntKind.wrap_u64]; omega
        have htl : tn < 18446744073709551616 := by rw [IntKind.wrap_u64] at hT; omega
        have hta : ∀ z, ad (tn : Int) z = ad p2 z := fun z => by rw [htn]; exact ad_wrapT p2 z
        have hn2 := next_any w0 gb ga A c (q + k1) tn xs w3 hrg htl
        unfold en1 at hR
        rw [List.drop_drop] at hR
        generalize uvS 0 0 (xs.drop (q + k1)) = U at hn2 hR
        obtain ⟨m2, k2, e2⟩ := U
        simp only at hn2 hR
        rw [hta] at hn2
        obtain ⟨r2, hr2⟩ : ∃ r, r = ad p2 (if e2 = 0 then zagN m2 else 0) := ⟨_, rfl⟩
        have hl2 : r2 < 18446744073709551616 := by rw [hr2]; exact ad_lt _ _
        rw [← hr2] at hn2
        have HN2 := Lib.hid hn2; have HR := Lib.hid hR; have HQ2 := Lib.hid hr2
        clear hn2 hR hr2 htn hta hrg
        go_wp2_with fail
        clear X0 X1 X2 X3
        refine (HN2.out).mono ?_
        rintro e w4 ⟨rfl, hrg, hm⟩
        have hE3 : EBox w4 b3 (p1, p2, p3, p4) := keep_mv hm HE3.out n3
        have hE6 := keep_mv hm HE6.out n6
        have hM := mv_two HM.out hm
        obtain ⟨X0, X1, X2, X3⟩ := hE3.cells
        simp only at X0 X1 X2 X3
        have HE3 := Lib.hid hE3; have HE6 := Lib.hid hE6; have HM := Lib.hid hM
        clear hE3 hE6 hM hm HN2
        by_cases he2 : e2 = 0
        · subst he2
          have hR := HR.out
          have hr2 : r2 = ad p2 (zagN m2) := by rw [HQ2.out, if_pos rfl]
          rw [if_neg (by simp), ← hr2] at hR
          clear HR HQ2 hr2
          have hn3 := next_any w0 gb ga A c (q + k1 + k2) p4 xs w4 hrg o5
          unfold en2 at hR
          rw [List.drop_drop] at hR
          generalize uvS 0 0 (xs.drop (q + k1 + k2)) = U at hn3 hR
          obtain ⟨m3, k3, e3⟩ := U
          simp only at hn3 hR
          obtain ⟨r3, hr3⟩ : ∃ r, r = ad p4 (if e3 = 0 then zagN m3 else 0) := ⟨_, rfl⟩
          have hl3 : r3 < 18446744073709551616 := by rw [hr3]; exact ad_lt _ _
          rw [← hr3] at hn3
          have HN3 := Lib.hid hn3; have HR := Lib.hid hR; have HQ3 := Lib.hid hr3
          clear hn3 hR hr3 hrg
          go_wp2_with fail
          clear X0 X1 X2 X3
          refine (HN3.out).mono ?_
          rintro e w5 ⟨rfl, hrg, hm⟩
          have hE3 : EBox w5 b3 (p1, p2, p3, p4) := keep_mv hm HE3.out n3
          have hE6 := keep_mv hm HE6.out n6
          have hM := mv_two HM.out hm
          obtain ⟨X0, X1, X2, X3⟩ := hE3.cells
          simp only at X0 X1 X2 X3
          have HE3 := Lib.hid hE3; have HE6 := Lib.hid hE6; have HM := Lib.hid hM
          clear hE3 hE6 hM hm HN3
          by_cases he3 : e3 = 0
          · subst he3
            have hR := HR.out
            have hr3 : r3 = ad p4 (zagN m3) := by rw [HQ3.out, if_pos rfl]
            rw [if_neg (by simp), ← hr3] at hR
            clear HR HQ3 hr3
            by_cases hz3 : r3 = 0
            · rw [if_pos hz3] at hR
              have g3 : ((r3 : Int) == 0) = true := by rw [hz3]; rfl
              have HR := Lib.hid hR
              clear hR hz3 hrg
              go_wp2_with (first
                | (refine wpList_store_agg (o := ⟨none, _, _, _, _, _⟩) ?_ 47 (.tmp 6) (.tmp 63) ?_ b6 0 [.int .u32 0, .int .i64 0, .int .u64 0, .int .u64 0] ?_ ?_ 47 _ HE6.out (by kernel_rfl) (by show 0 + 4 ≤ 4; decide) (by intro v hv; simp at hv; rcases hv with rfl | rfl | rfl <;> rfl) ?_; rfl; rfl; rfl; rfl; intro w9 hg9 hmv9 hs9)
                | fail)
              refine post_en2 (by rfl) b6 (boxEn en0) (by rfl) hg9 (by rfl) (by rfl) ?_
              refine ⟨by rw [HR.out]; rfl, fun h => absurd h (by rw [HR.out]; simp only; omega), HM.out.trans hmv9 (fun i hi e => by have := H6B.out; omega)⟩
            · have g3 : ((r3 : Int) == 0) = false := by rw [beq_eq_false_iff_ne]; omega
              rw [if_neg hz3] at hR
              clear hz3
              have hn4 := value_any w0 gb ga A c (q + k1 + k2 + k3) xs w5 hrg
              unfold en3 at hR
              rw [List.drop_drop] at hR
              by_cases h8 : (xs.drop (q + k1 + k2 + k3)).length < 8
              · rw [if_pos h8] at hR hn4
                rw [if_pos h8, if_pos h8] at hn4
                have HN4 := Lib.hid hn4; have HR := Lib.hid hR
                clear hn4 hR hrg h8
                go_wp2_with fail
                clear X0 X1 X2 X3
                refine (HN4.out).mono ?_
                rintro e w6 ⟨rfl, hrg, hm⟩
                have hE3 : EBox w6 b3 (p1, p2, p3, p4) := keep_mv hm HE3.out n3
                have hE6 := keep_mv hm HE6.out n6
                have hM := mv_two HM.out hm
                obtain ⟨X0, X1, X2, X3⟩ := hE3.cells
                simp only at X0 X1 X2 X3
                have HE3 := Lib.hid hE3; have HE6 := Lib.hid hE6; have HM := Lib.hid hM
                clear hE3 hE6 hM hm HN4
                go_wp2_with (first
                  | (refine wpList_store_agg (o := ⟨none, _, _, _, _, _⟩) ?_ 47 (.tmp 6) (.tmp 71) ?_ b6 0 [.int .u32 0, .int .i64 0, .int .u64 0, .int .u64 0] ?_ ?_ 47 _ HE6.out (by kernel_rfl) (by show 0 + 4 ≤ 4; decide) (by intro v hv; simp at hv; rcases hv with rfl | rfl | rfl <;> rfl) ?_; rfl; rfl; rfl; rfl; intro w9 hg9 hmv9 hs9)
                  | fail)
                refine post_en2 (by rfl) b6 (boxEn en0) (by rfl) hg9 (by rfl) (by rfl) ?_
                refine ⟨by rw [HR.out]; rfl, fun h => absurd h (by rw [HR.out]; simp only; omega), HM.out.trans hmv9 (fun i hi e => by have := H6B.out; omega)⟩
              · rw [if_neg h8] at hR hn4
                rw [if_neg h8, if_neg h8] at hn4
                have hvl : ofB ((xs.drop (q + k1 + k2 + k3)).take 8) < 18446744073709551616 := by
                  have h1 := ofB_lt ((xs.drop (q + k1 + k2 + k3)).take 8)
                  have h2 : ((xs.drop (q + k1 + k2 + k3)).take 8).length ≤ 8 := by rw [List.length_take]; omega
                  have h3 : 256 ^ ((xs.drop (q + k1 + k2 + k3)).take 8).length ≤ 256 ^ 8 := Nat.pow_le_pow_right (by omega) h2
                  have e8 : 256 ^ 8 = 18446744073709551616 := by decide
                  omega
                generalize ofB ((xs.drop (q + k1 + k2 + k3)).take 8) = V at hn4 hR hvl
                have HN4 := Lib.hid hn4; have HR := Lib.hid hR
                clear hn4 hR hrg h8
                go_wp2_with fail
                clear X0 X1 X2 X3
                refine (HN4.out).mono ?_
                rintro e w6 ⟨rfl, hrg, hm⟩
                have hE3 : EBox w6 b3 (p1, p2, p3, p4) := keep_mv hm HE3.out n3
                have hE6 := keep_mv hm HE6.out n6
                have hM := mv_two HM.out hm
                obtain ⟨X0, X1, X2, X3⟩ := hE3.cells
                simp only at X0 X1 X2 X3
                have HE3 := Lib.hid hE3; have HE6 := Lib.hid hE6; have HM := Lib.hid hM
                clear hE3 hE6 hM hm HN4
                have hsg := sg_wrap r2
                generalize sg r2 = T2 at hsg HR
                have HRG := Lib.hid hrg; clear hrg
                go_wp2_with (first
                  | (refine wpList_store_agg (o := ⟨none, _, _, _, _, _⟩) ?_ 47 (.tmp 6) (.tmp 80) ?_ b6 0 [.int .u32 (r1 : Nat), .int .i64 T2, .int .u64 (V : Nat), .int .u64 (r3 : Nat)] ?_ ?_ 47 _ HE6.out (by kernel_rfl) (by show 0 + 4 ≤ 4; decide) (by intro v hv; simp at hv; rcases hv with rfl | rfl | rfl | rfl <;> rfl) ?_; rfl; rfl; rfl; rfl; intro w9 hg9 hmv9 hs9)
                  | fail)
                refine post_en2 (by rfl) b6 (boxEn (r1, T2, V, r3)) (by rfl) hg9 (by rfl) (by rfl) ?_
                refine ⟨by rw [HR.out]; rfl, fun _ => ?_, HM.out.trans hmv9 (fun i hi e => by have := H6B.out; omega)⟩
                rw [HR.out]
                simp only
                have hrg := HRG.out
                rw [show q + (k1 + k2 + k3 + 8) = q + k1 + k2 + k3 + 8 by omega]
                exact hrg.mv hmv9 (ne_blk hrg.bx HE6.out (by decide)) (ne_blk hrg.at_ HE6.out (by decide)) (by have := H0B.out; have := H6B.out; omega)
          · have hR := HR.out
            rw [if_pos he3] at hR
            have g3 : ((e3 : Int) != 0) = true := by rw [bne_iff_ne]; omega
            have HR := Lib.hid hR
            clear hR HQ3 hrg
            go_wp2_with (first
              | (refine wpList_store_agg (o := ⟨none, _, _, _, _, _⟩) ?_ 47 (.tmp 6) (.tmp 58) ?_ b6 0 [.int .u32 0, .int .i64 0, .int .u64 0, .int .u64 0] ?_ ?_ 47 _ HE6.out (by kernel_rfl) (by show 0 + 4 ≤ 4; decide) (by intro v hv; simp at hv; rcases hv with rfl | rfl | rfl <;> rfl) ?_; rfl; rfl; rfl; rfl; intro w9 hg9 hmv9 hs9)
              | fail)
            refine post_en2 (by rfl) b6 (boxEn en0) (by rfl) hg9 (by rfl) (by rfl) ?_
            refine ⟨by rw [HR.out]; rfl, fun h => absurd h (by rw [HR.out]; simp only; omega), HM.out.trans hmv9 (fun i hi e => by have := H6B.out; omega)⟩
        · have hR := HR.out
          rw [if_pos he2] at hR
          have g3 : ((e2 : Int) != 0) = true := by rw [bne_iff_ne]; omega
          have HR := Lib.hid hR
          clear hR HQ2 hrg
          go_wp2_with (first
            | (refine wpList_store_agg (o := ⟨none, _, _, _, _, _⟩) ?_ 47 (.tmp 6) (.tmp 45) ?_ b6 0 [.int .u32 0, .int .i64 0, .int .u64 0, .int .u64 0] ?_ ?_ 47 _ HE6.out (by kernel_rfl) (by show 0 + 4 ≤ 4; decide) (by intro v hv; simp at hv; rcases hv with rfl | rfl | rfl <;> rfl) ?_; rfl; rfl; rfl; rfl; intro w9 hg9 hmv9 hs9)
            | fail)
          refine post_en2 (by rfl) b6 (boxEn en0) (by rfl) hg9 (by rfl) (by rfl) ?_
          refine ⟨by rw [HR.out]; rfl, fun h => absurd h (by rw [HR.out]; simp only; omega), HM.out.trans hmv9 (fun i hi e => by have := H6B.out; omega)⟩
  · have hR := HR.out
    rw [if_pos he1] at hR
    have g3 : ((e1 : Int) != 0) = true := by rw [bne_iff_ne]; omega
    have HR := Lib.hid hR
    clear hR HQ1 hrg
    go_wp2_with (first
      | (refine wpList_store_agg (o := ⟨none, _, _, _, _, _⟩) ?_ 47 (.tmp 6) (.tmp 24) ?_ b6 0 [.int .u32 0, .int .i64 0, .int .u64 0, .int .u64 0] ?_ ?_ 47 _ HE6.out (by kernel_rfl) (by show 0 + 4 ≤ 4; decide) (by intro v hv; simp at hv; rcases hv with rfl | rfl | rfl <;> rfl) ?_; rfl; rfl; rfl; rfl; intro w9 hg9 hmv9 hs9)
      | fail)
    refine post_en2 (by rfl) b6 (boxEn en0) (by rfl) hg9 (by rfl) (by rfl) ?_
    refine ⟨by rw [HR.out]; rfl, fun h => absurd h (by rw [HR.out]; simp only; omega), HM.out.trans hmv9 (fun i hi e => by have := H6B.out; omega)⟩
end
end Go.Proofs.YtgogpngobdafaaaDoor
