/-
  The plain answers' SHA-256: a state behind a block.
-/
import Derived.Test.YtleppphcjncfhaaDoorRt
namespace Go.Proofs.YtleppphcjncfhaaDoor
set_option linter.unusedVariables false
set_option linter.unusedSimpArgs false
open Go.RowKit

theorem stC_one (s : St) : ∀ v ∈ stC s, v.oneCell' = true := by
  intro v hv; simp only [stC, List.mem_cons, List.not_mem_nil, or_false] at hv; rcases hv with rfl | rfl | rfl | rfl | rfl | rfl | rfl | rfl <;> rfl
theorem spl_state (s : St) (cs : List Value) (h : cs.length = 8) : spl (stC s).toArray 0 cs = cs.toArray := by
  have hd : (stC s).drop 8 = [] := rfl
  simp [spl, splice, h, hd]
/-- Two new variables, and what is stored into each whole. -/
theorem fresh_two {w2 w3 w4 : World} {X Y : Obj} {t u : TypeId} {l m : List Value} {N : Nat} {z : Value} (hg3 : w3.heap[w2.heap.size]? = some (.cells (spl (Array.replicate N z) 0 l) t (0, 0)))
    (hm3 : Mv (fun k => k = w2.heap.size) ((w2.alloc X).alloc Y) w3) (hs3 : w3.heap.size = ((w2.alloc X).alloc Y).heap.size) (hg4 : w4.heap[w2.heap.size + 1]? = some (.cells (spl (Array.replicate N z) 0 m) u (0, 0)))
    (hm4 : Mv (fun k => k = w2.heap.size + 1) w3 w4) (hs4 : w4.heap.size = w3.heap.size) (hl : l.length = N) (hm : m.length = N) :
    w4.heap[w2.heap.size]? = some (.cells l.toArray t (0, 0)) ∧ w4.heap[w2.heap.size + 1]? = some (.cells m.toArray u (0, 0)) ∧ Below w2.heap.size w2 w4 ∧ w4.heap.size = w2.heap.size + 2 := by
  have hzz : ((w2.alloc X).alloc Y).heap.size = w2.heap.size + 2 := by simp
  have h3 : w3.heap.size = w2.heap.size + 2 := hs3.trans hzz
  have e : ∀ q : List Value, q.length = N → spl (Array.replicate N z) 0 q = q.toArray := fun q hq => by simp [spl, splice, hq, List.drop_eq_nil_of_le]
  refine ⟨?_, by rw [hg4, e m hm], ⟨hm4.os.trans hm3.os, hm4.tape.trans hm3.tape, hm4.output.trans hm3.output, by omega, fun b hb => ?_⟩, by omega⟩
  · rw [hm4.block _ (by omega) (by omega), hg3, e l hl]
  · exact (hm4.block b (by omega) (by omega)).trans ((hm3.block b (by rw [hzz]; omega) (by omega)).trans ((heap_alloc_old _ _ (by rw [World.size_alloc]; omega)).trans (heap_alloc_old _ _ hb)))
theorem eight_put {w : World} {p : Nat} {s : St} {t : TypeId} {x0 x1 x2 x3 x4 x5 x6 x7 : Value} (h : w.heap[p]? = some (.cells (stC s).toArray t (0, 0))) :
    ((((((((w.setCell ⟨p, 0, none⟩ x0).setCell ⟨p, 1, none⟩ x1).setCell ⟨p, 2, none⟩ x2).setCell ⟨p, 3, none⟩ x3).setCell ⟨p, 4, none⟩ x4).setCell ⟨p, 5, none⟩ x5).setCell ⟨p, 6, none⟩ x6).setCell ⟨p, 7, none⟩ x7).heap[p]? = some (.cells #[x0, x1, x2, x3, x4, x5, x6, x7] t (0, 0)) := by
  rw [set_blk (set_blk (set_blk (set_blk (set_blk (set_blk (set_blk (set_blk h 0 x0) 1 x1) 2 x2) 3 x3) 4 x4) 5 x5) 6 x6) 7 x7]
  simp [stC]
theorem list8 {x0 x4 y0 y4 a b c e f g : Value} (h0 : x0 = y0) (h4 : x4 = y4) (t : TypeId) : some (Obj.cells #[x0, a, b, c, x4, e, f, g] t (0, 0)) = some (Obj.cells [y0, a, b, c, y4, e, f, g].toArray t (0, 0)) := by subst h0 h4; rfl
section
set_option maxHeartbeats 3200000
set_option maxRecDepth 100000
theorem rblock_any (w : World) (s : St) (hs : s.Ok) (A : Option Addr) (ca n : Nat) (xs : List UInt8) (hn : xs.length = n) (hx : Rd w A (xs.map Bv)) (hl : 64 ≤ n) (hc : n ≤ ca) (hm : ca ≤ 9223372036854775807) (sl : List Value) (hsl : sl = stC s) :
    Calls Tryd.prog 37 #[.agg sl.toArray, .slice A n ca] w fun e w' => e = .returned (stV (blockS s xs)) ∧ Below w.heap.size w w' := by
  have HN := Lib.hid hn; clear hn
  have hsn : sl.length = 8 := by rw [hsl]; rfl
  have hso : ∀ v ∈ sl, v.oneCell' = true := by rw [hsl]; exact stC_one s
  have HSL := Lib.hid hsl; clear hsl
  have HSN := Lib.hid hsn; clear hsn
  have HSO := Lib.hid hso; clear hso
  go_enter Tryd.func37, Tryd.ntmps37
  go_wp2_with fail
  have hb0 := ((Below.refl _ w).alloc (Nat.le_refl _) (.cells sl.toArray 54)).alloc (by simp) (.cells (Array.replicate 8 (.int .u32 0)) 54)
  have hg0 := heap_alloc2_old w (.cells sl.toArray 54) (.cells (Array.replicate 8 (.int .u32 0)) 54)
  have hg1 := heap_alloc_new2 w (.cells sl.toArray 54) (.cells (Array.replicate 8 (.int .u32 0)) 54)
  have hz0 : ((w.alloc (.cells sl.toArray 54)).alloc (.cells (Array.replicate 8 (.int .u32 0)) 54)).heap.size = w.heap.size + 2 := by simp
  have hx0 := hx.below hb0
  change Calls _ _ _ ((w.alloc (.cells sl.toArray 54)).alloc (.cells (Array.replicate 8 (.int .u32 0)) 54)) _
  generalize (w.alloc (.cells sl.toArray 54)).alloc (.cells (Array.replicate 8 (.int .u32 0)) 54) = w0 at *
  refine (table_any w0).mono ?_
  rintro e w1 ⟨rfl, hb1⟩
  have hg01 := (hb1.block w.heap.size (by omega)).trans hg0
  have hg11 := (hb1.block (w.heap.size + 1) (by omega)).trans hg1
  have hz1 : w.heap.size + 2 ≤ w1.heap.size := by have := hb1.size; omega
  have hb1' := hb0.trans (hb1.mono (by rw [hz0]; omega))
  have hx1 := hx0.below hb1
  clear hb1 hb0 hg0 hg1 hz0 hx0
  have HG01 := Lib.hid hg01; clear hg01
  have HG11 := Lib.hid hg11; clear hg11
  obtain ⟨tl, htl⟩ : ∃ tl, tl = tabC := ⟨_, rfl⟩
  rw [← htl]
  have HTL := Lib.hid htl; clear htl
  go_wp2_with fail
  refine (rwords_any w1 A ca n xs HN.out hx1 hl hc hm).mono ?_
  rintro e w2 ⟨cs, rfl, hcz, hcf, hb2⟩
  have hg02 := (hb2.block w.heap.size (by omega)).trans HG01.out
  have hg12 := (hb2.block (w.heap.size + 1) (by omega)).trans HG11.out
  have hz2 : w.heap.size + 2 ≤ w2.heap.size := by have := hb2.size; omega
  have hb2' := hb1'.trans (hb2.mono (by omega))
  clear hb2 hb1' hx1 HG01 HG11 hx
  have HG02 := Lib.hid hg02; clear hg02
  have HG12 := Lib.hid hg12; clear hg12
  obtain ⟨cl, hcl⟩ : ∃ cl, cl = cs.toList := ⟨_, rfl⟩
  have hcc : cs = cl.toArray := by rw [hcl]
  rw [hcc] at hcf hcz
  rw [hcc]
  have hclz : cl.length = 64 := by simpa using hcz
  have hcf' : ∀ t, t < 64 → cl[t]? = some (.int .u32 (wW xs t : Nat)) := fun t ht => by have := hcf t ht; simpa using this
  have h1c : ∀ v ∈ cl, v.oneCell' = true := by
    intro v hv
    obtain ⟨i, hi, e⟩ := List.getElem_of_mem hv
    have := hcf' i (by omega)
    rw [List.getElem?_eq_getElem hi, e] at this
    injection this with this; rw [this]; rfl
  clear hcl hcc hcf hcz
  have HCF := Lib.hid hcf'; clear hcf'
  have H1C := Lib.hid h1c; clear h1c
  have HCLZ := Lib.hid hclz; clear hclz
  go_wp2_with (first
    | (refine wpList_store_agg (o := ⟨none, _, _, _, _, _⟩) ?_ 84 (.tmp 5) (.tmp 15) ?_ w2.heap.size 0 tl ?_ ?_ 84 (Array.replicate 64 (.int .u32 0)) (heap_alloc2_old w2 _ _) ?_ ?_ ?_ ?_; rfl; rfl; rfl; rfl; (rw [HTL.out, tabC_length]; kernel_rfl); (rw [HTL.out, tabC_length]; decide); (rw [HTL.out]; exact tabC_one); intro w3 hg3 hm3 hs3; have hk3 := (hm3.block (w2.heap.size + 1) (by simp) (by omega)).trans (heap_alloc_new2 w2 _ _); have HK3 := Lib.hid hk3; have HG3 := Lib.hid hg3; have HM3 := Lib.hid hm3; have HS3 := Lib.hid hs3; clear hk3 hg3 hm3 hs3)
    | (refine wpList_store_agg (o := ⟨none, _, _, _, _, _⟩) ?_ 84 (.tmp 6) (.tmp 17) ?_ (w2.heap.size + 1) 0 cl ?_ ?_ 84 (Array.replicate 64 (.int .u32 0)) HK3.out ?_ ?_ H1C.out ?_; rfl; rfl; rfl; rfl; (rw [HCLZ.out]; kernel_rfl); (rw [HCLZ.out]; decide); intro w4 hg4 hm4 hs4; obtain ⟨hg3', hg4', hb4, hz4⟩ := fresh_two HG3.out HM3.out HS3.out hg4 hm4 hs4 (by rw [HTL.out, tabC_length]) HCLZ.out; have hn4 := (hb4.block w.heap.size (by omega)).trans HG02.out; have hr4 := (hb4.block (w.heap.size + 1) (by omega)).trans HG12.out; have HG4 := Lib.hid hg4'; have HG3' := Lib.hid hg3'; have HN4 := Lib.hid hn4; have HR4 := Lib.hid hr4; have hnw : ∀ o, (w4.alloc o).heap[w2.heap.size + 2]? = some o := (fun o => by rw [← hz4]; exact heap_alloc_new w4 o); have HNW := Lib.hid hnw; clear hg4 hg3' hg4' hn4 hr4 hm4 hs4 HK3 HG3 HM3 HS3 hnw)
    | (refine wpList_load_agg (o := ⟨some 18, _, _, _, _, _⟩) ?_ 54 (.tmp 2) ?_ w.heap.size 0 ?_ sl ?_ ?_ ?_ ?_; rfl; rfl; rfl; kernel_rfl; (rw [HSN.out]; kernel_rfl); (intro i v hv; rw [cell_blk HN4.out, Nat.zero_add]; simpa using hv))
    | (refine wpList_store_agg (o := ⟨none, _, _, _, _, _⟩) ?_ 54 (.tmp 7) (.tmp 18) ?_ (w2.heap.size + 2) 0 sl ?_ ?_ 54 _ (HNW.out _) ?_ ?_ HSO.out ?_; rfl; rfl; rfl; rfl; (rw [HSN.out]; kernel_rfl); (rw [HSN.out]; decide); intro w5 hg5 hm5 hs5)
    | fail)
  rw [← hz4] at hg5 hm5
  obtain ⟨hg5', hb5, hz5⟩ := fresh_store hg5 hm5 hs5 HSN.out
  rw [hz4] at hg5' hb5 hz5
  have hB5 := hb2'.trans ((hb4.trans (show Below w2.heap.size w4 w5 from hb5.mono (by omega))).mono (by omega))
  have hk5 := (hb5.block w2.heap.size (by omega)).trans HG3'.out
  have hw5 := (hb5.block (w2.heap.size + 1) (by omega)).trans HG4.out
  have hn5 := (hb5.block w.heap.size (by omega)).trans HN4.out
  have hr5 := (hb5.block (w.heap.size + 1) (by omega)).trans HR4.out
  rw [HSL.out] at hg5' hn5
  have hW0 : WordsAt w5 w.heap.size 54 8 8 (fun i => if i < 0 then (addS s (rounds xs s 64)).at i else s.at i) := ⟨_, hn5, rfl, fun i hi => by
    have := stC_get s i hi
    simpa using this⟩
  have hkc : ∀ k, k < 64 → w5.cell? ⟨w2.heap.size, k, none⟩ = some (.int .u32 (kL.getD k 0 : Nat)) := fun k hk => by
    rw [cell_blk hk5, HTL.out]
    simpa using tabC_get k hk
  have hwc : ∀ k, k < 64 → w5.cell? ⟨w2.heap.size + 1, k, none⟩ = some (.int .u32 (wW xs k : Nat)) := fun k hk => by
    rw [cell_blk hw5]
    simpa using HCF.out k hk
  have HKC := Lib.hid hkc; clear hkc
  have HWC := Lib.hid hwc; clear hwc
  have HG5 := Lib.hid hg5'; clear hg5'
  have HW0 := Lib.hid hW0; clear hW0
  have HR5 := Lib.hid hr5; clear hr5
  clear hk5 hw5 hn5 hb5 hg5 hm5 hs5 HG4 HG3' HN4 HR4 hb2' hb4 HNW HG02 HG12 HSO HSN HTL HCF H1C HCLZ hz4
  go_wp2
  go_loopw [19] (fun i wr => ∃ k : Nat, k ≤ 64 ∧ i = .int .i64 k ∧ wr.heap[w2.heap.size + 2]? = some (.cells (stC (rounds xs s k)).toArray 54 (0, 0)) ∧ Mv (fun b => b = w2.heap.size + 2) w5 wr) (fun i _ => 64 - (intOf i).toNat)
  case atStart => exact ⟨0, by omega, rfl, HG5.out, Mv.refl _ _⟩
  case round =>
    obtain ⟨k, hk, rfl, hg, hmv⟩ := hrel
    by_cases hlt : k < 64
    · have ok := rounds_ok xs hs k
      have hkk := (World.cell?_of_block (a := ⟨w2.heap.size, k, none⟩) (w := w5) (hmv.block w2.heap.size (by omega) (by omega))).trans (HKC.out k hlt)
      have hww := (World.cell?_of_block (a := ⟨w2.heap.size + 1, k, none⟩) (w := w5) (hmv.block (w2.heap.size + 1) (by omega) (by omega))).trans (HWC.out k hlt)
      have hKl := kL_lt k
      have hWl := wW_lt xs k
      have hr : rounds xs s (k + 1) = rnd (rounds xs s k) (kL.getD k 0) (wW xs k) := rfl
      generalize rounds xs s k = t at *
      generalize kL.getD k 0 = K at *
      generalize wW xs k = W at *
      obtain ⟨a, b, c, d, e, f, g, hh⟩ := t
      obtain ⟨oa, ob, oc, od, oe, of_, og, oh⟩ := ok
      simp only at oa ob oc od oe of_ og oh
      have c0 := cell_blk hg 0
      have c1 := cell_blk hg 1
      have c2 := cell_blk hg 2
      have c3 := cell_blk hg 3
      have c4 := cell_blk hg 4
      have c5 := cell_blk hg 5
      have c6 := cell_blk hg 6
      have c7 := cell_blk hg 7
      simp [stC] at c0 c1 c2 c3 c4 c5 c6 c7
      have z0 := free_blk hg 0
      have z1 := free_blk hg 1
      have z2 := free_blk hg 2
      have z3 := free_blk hg 3
      have z4 := free_blk hg 4
      have z5 := free_blk hg 5
      have z6 := free_blk hg 6
      have z7 := free_blk hg 7
      have f1 := xor3 (rotr_lt (n := 6) oe) (rotr_lt (n := 11) oe) (rotr_lt (n := 25) oe)
      have f0 := xor3 (rotr_lt (n := 2) oa) (rotr_lt (n := 13) oa) (rotr_lt (n := 22) oa)
      have fc := ch_in oe of_ og
      have fm := maj_in oa ob oc
      have l1 := Sg1_lt oe
      have l0 := Sg0_lt oa
      have lc := chW_lt (e := e) (f := f) (g := g) oe
      have lm := majW_lt (a := a) (b := b) (c := c) oa ob
      change _ = ((Sg1 e : Nat) : Int) at f1
      change _ = ((Sg0 a : Nat) : Int) at f0
      have hst : stC (rounds xs s (k + 1)) = [.int .u32 (((((hh + Sg1 e + chW e f g + K + W) % 4294967296 + Sg0 a + majW a b c) % 4294967296 : Nat) : Int)), .int .u32 (a : Nat), .int .u32 (b : Nat), .int .u32 (c : Nat), .int .u32 (((d + (hh + Sg1 e + chW e f g + K + W) % 4294967296) % 4294967296 : Nat) : Int), .int .u32 (e : Nat), .int .u32 (f : Nat), .int .u32 (g : Nat)] := by rw [hr]; rfl
      clear hr
      have K6 : ∀ u : World, Calls Tryd.prog 63 #[.int .u32 (e : Nat), .int .u64 6] u fun x w' => x = .returned (.int .u32 (rotr e 6 : Nat)) ∧ w' = u := fun u => (right_any e 6 u oe (by decide) (by decide)).mono fun _ _ h => ⟨h.1, h.2.symm⟩
      have K11 : ∀ u : World, Calls Tryd.prog 63 #[.int .u32 (e : Nat), .int .u64 11] u fun x w' => x = .returned (.int .u32 (rotr e 11 : Nat)) ∧ w' = u := fun u => (right_any e 11 u oe (by decide) (by decide)).mono fun _ _ h => ⟨h.1, h.2.symm⟩
      have K25 : ∀ u : World, Calls Tryd.prog 63 #[.int .u32 (e : Nat), .int .u64 25] u fun x w' => x = .returned (.int .u32 (rotr e 25 : Nat)) ∧ w' = u := fun u => (right_any e 25 u oe (by decide) (by decide)).mono fun _ _ h => ⟨h.1, h.2.symm⟩
      have K2 : ∀ u : World, Calls Tryd.prog 63 #[.int .u32 (a : Nat), .int .u64 2] u fun x w' => x = .returned (.int .u32 (rotr a 2 : Nat)) ∧ w' = u := fun u => (right_any a 2 u oa (by decide) (by decide)).mono fun _ _ h => ⟨h.1, h.2.symm⟩
      have K13 : ∀ u : World, Calls Tryd.prog 63 #[.int .u32 (a : Nat), .int .u64 13] u fun x w' => x = .returned (.int .u32 (rotr a 13 : Nat)) ∧ w' = u := fun u => (right_any a 13 u oa (by decide) (by decide)).mono fun _ _ h => ⟨h.1, h.2.symm⟩
      have K22 : ∀ u : World, Calls Tryd.prog 63 #[.int .u32 (a : Nat), .int .u64 22] u fun x w' => x = .returned (.int .u32 (rotr a 22 : Nat)) ∧ w' = u := fun u => (right_any a 22 u oa (by decide) (by decide)).mono fun _ _ h => ⟨h.1, h.2.symm⟩
      generalize Sg1 e = y1 at *
      generalize Sg0 a = y0 at *
      generalize chW e f g = yc at *
      generalize majW a b c = ym at *
      generalize rotr e 6 = r6 at *
      generalize rotr e 11 = r11 at *
      generalize rotr e 25 = r25 at *
      generalize rotr a 2 = r2 at *
      generalize rotr a 13 = r13 at *
      generalize rotr a 22 = r22 at *
      have HST := Lib.hid hst; clear hst
      have HG := Lib.hid hg; clear hg
      have J6 := Lib.hid K6; clear K6
      have J11 := Lib.hid K11; clear K11
      have J25 := Lib.hid K25; clear K25
      have J2 := Lib.hid K2; clear K2
      have J13 := Lib.hid K13; clear K13
      have J22 := Lib.hid K22; clear K22
      go_wp2
      go_quiet (first
        | ((go_at_call 63; with_reducible exact Calls.quiet_of_same (J6.out _)))
        | ((go_at_call 63; with_reducible exact Calls.quiet_of_same (J11.out _)))
        | ((go_at_call 63; with_reducible exact Calls.quiet_of_same (J25.out _))))
      go_wp2
      go_quiet (first
        | ((go_at_call 63; with_reducible exact (J2.out _).mono fun _ _ h => ⟨h.1, _, h.2⟩))
        | ((go_at_call 63; with_reducible exact (J13.out _).mono fun _ _ h => ⟨h.1, _, h.2⟩))
        | ((go_at_call 63; with_reducible exact (J22.out _).mono fun _ _ h => ⟨h.1, _, h.2⟩)))
      go_wp2
      go_quiet (fail)
      go_wp2
      go_roundw
      case rel =>
        refine ⟨k + 1, by omega, by go_num, ?_, (((((((((hmv.drewN _).set1).set1).set1).set1).set1).set1).set1).set1)⟩
        rw [HST.out]
        refine (eight_put (s := ⟨a, b, c, d, e, f, g, hh⟩) HG.out).trans ?_
        exact list8 (u32eq (by omega)) (u32eq (by omega)) _
      case measure => simp [intOf]; omega
    · have e64 : rounds xs s k = rounds xs s 64 := by rw [show k = 64 from by omega]
      rw [e64] at hg
      clear e64
      have ok := rounds_ok xs hs 64
      obtain ⟨t, hT⟩ : ∃ t, t = rounds xs s 64 := ⟨_, rfl⟩
      have hW0 := HW0.out.block (hmv.block w.heap.size (by omega) (by omega))
      have hr0 := (hmv.block (w.heap.size + 1) (by omega) (by omega)).trans HR5.out
      have hb0 : Below w.heap.size w wr := hB5.trans (hmv.belowB (by omega) (fun k hk e => by omega))
      rw [← hT] at ok hg hW0
      have hgt : WordsAt wr (w2.heap.size + 2) 54 8 8 (fun i => t.at i) := ⟨_, hg, rfl, fun i hi => by have := stC_get t i hi; simpa using this⟩
      have hR0 : WordsAt wr (w.heap.size + 1) 54 8 0 (fun i => 0) := ⟨_, hr0, rfl, fun i hi => by omega⟩
      have HTT := Lib.hid hT; clear hT
      clear hg hr0 hmv HG5 HR5 HW0 HKC HWC hB5
      go_wp2
      obtain ⟨w6, hw6⟩ : ∃ w6, w6 = wr := ⟨_, rfl⟩
      rw [← hw6]
      rw [← hw6] at hW0 hR0 hb0 hgt
      have hz6 : w2.heap.size + 2 < w6.heap.size := hgt.lt
      go_loopw [110] (fun i wq => ∃ k : Nat, k ≤ 8 ∧ i = .int .i64 k ∧ WordsAt wq w.heap.size 54 8 8 (fun i => if i < k then (addS s t).at i else s.at i) ∧ WordsAt wq (w.heap.size + 1) 54 8 0 (fun i => 0) ∧ WordsAt wq (w2.heap.size + 2) 54 8 8 (fun i => t.at i) ∧ Below w.heap.size w wq) (fun i _ => 8 - (intOf i).toNat)
      case atStart =>
        have e : (fun i => if i < 0 then (addS s t).at i else s.at i) = (fun i => if i < 0 then (addS s t).at i else s.at i) := rfl
        exact ⟨0, by omega, rfl, hW0, hR0, hgt, hb0⟩
      clear hW0 hR0 hb0 hw6 hgt
      case round =>
        obtain ⟨j, hj, rfl, hW, hR, hT, hb⟩ := hrel
        by_cases hlt8 : j < 8
        · have hc := hW.get hlt8
          rw [if_neg (Nat.lt_irrefl j)] at hc
          have hd := hT.get hlt8
          have hfz := hW.free j
          have hsl := hs.at j
          have htl := ok.at j
          have hadd := addS_at s t j
          have HADD := Lib.hid hadd; clear hadd
          have hne : w2.heap.size + 2 ≠ w.heap.size := by omega
          generalize s.at j = x at *
          generalize t.at j = y at *
          go_wp2
          go_region
          go_wp2
          go_roundw
          case rel => exact ⟨j + 1, by omega, by go_num, hW.put (i := j) hlt8 (by omega) (by rw [if_pos (Nat.lt_succ_self j), HADD.out]; omega) (fun q hq => by
              by_cases h1 : q < j
              · rw [if_pos h1, if_pos (by omega)]
              · rw [if_neg h1, if_neg (by omega)]), hR.block (heap_setCell_other _ _ _ _ (by simp)), hT.block (heap_setCell_other _ _ _ _ (by simp; omega)), (hb.setCell (by simp) _).drew⟩
          case measure => simp [intOf]; omega
        · have e8 : j = 8 := by omega
          obtain ⟨cs2, hg2, hz2', hf2⟩ := hW
          obtain ⟨zs2, hg3, hz3, _⟩ := hR
          have hcs2 : cs2 = (stC (addS s t)).toArray := by
            refine words_eq hz2' fun i hi => ?_
            have hi8 : i < 8 := hi
            rw [hf2 i hi8, stC_get _ _ hi8]
            exact congrArg (fun z : Nat => some (Value.int .u32 (z : Int))) (if_pos (by omega))
          rw [hcs2] at hg2
          have HG2 := Lib.hid hg2; clear hg2
          have HG3 := Lib.hid hg3; clear hg3
          have HZ3 := Lib.hid hz3; clear hz3
          clear hcs2 hf2 hz2' e8 hT
          obtain ⟨rl, hrl⟩ : ∃ rl, rl = stC (addS s t) := ⟨_, rfl⟩
          have hrlen : rl.length = 8 := by rw [hrl]; rfl
          have hro : ∀ v ∈ rl, v.oneCell' = true := by rw [hrl]; exact stC_one _
          rw [← hrl] at HG2
          have HRL := Lib.hid hrl; clear hrl
          have HRLN := Lib.hid hrlen; clear hrlen
          have HRO := Lib.hid hro; clear hro
          go_wp2_with (first
            | (refine wpList_load_agg (o := ⟨some 122, _, _, _, _, _⟩) ?_ 54 (.tmp 2) ?_ w.heap.size 0 ?_ rl ?_ ?_ ?_ ?_; rfl; rfl; rfl; kernel_rfl; (rw [HRLN.out]; kernel_rfl); (intro i v hv; rw [cell_blk HG2.out, Nat.zero_add]; simpa using hv))
            | (refine wpList_store_agg (o := ⟨none, _, _, _, _, _⟩) ?_ 54 (.tmp 4) (.tmp 122) ?_ (w.heap.size + 1) 0 rl ?_ ?_ 54 zs2 HG3.out ?_ ?_ HRO.out ?_; rfl; rfl; rfl; rfl; (rw [HRLN.out]; kernel_rfl); (rw [HRLN.out, HZ3.out]; decide); intro w7 hg7 hm7 hs7)
            | fail)
          have hg8 : w7.heap[w.heap.size + 1]? = some (.cells rl.toArray 54 (0, 0)) := by
            rw [hg7]
            congr 2
            simp [spl, splice, HRLN.out, HZ3.out, List.drop_eq_nil_of_le]
          have HG8 := Lib.hid hg8; clear hg8 hg7 hs7
          refine bodyPost_cell rfl (w.heap.size + 1) 54 rl.toArray rfl HG8.out (by kernel_rfl) (by rw [List.size_toArray, HRLN.out]; kernel_rfl) rfl ⟨?_, hb.trans (hm7.belowB (by have := hb.size; omega) (fun k hk e => by omega))⟩
          rw [HRL.out, HTT.out]
          rfl
end
end Go.Proofs.YtleppphcjncfhaaDoor
