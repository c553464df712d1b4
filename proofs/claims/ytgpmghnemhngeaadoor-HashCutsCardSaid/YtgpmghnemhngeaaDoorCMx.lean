/-
  A state behind a block, as the package reckons it.
-/
import Derived.Test.YtgpmghnemhngeaaDoorC01
namespace Go.Proofs.YtgpmghnemhngeaaDoor
section
set_option linter.unusedVariables false
set_option linter.unusedSimpArgs false
open Go.RowKit

/-- The table holds what its initialiser lays. -/
def AddsMet (w : World) : Prop := ∀ i : Nat, i < 64 → w.cell? ⟨0, i, none⟩ = some (.int .u32 (kL.getD i 0 : Nat))
theorem AddsMet.below {w w' : World} (h : AddsMet w) (hb : Below w.heap.size w w') : AddsMet w' := fun i hi =>
  (hb.cell (p := ⟨0, i, none⟩) (World.block_lt_of_cell? w _ (h i hi))).trans (h i hi)
theorem AddsMet.mv {w w' : World} {S : Nat → Prop} (h : AddsMet w) (hb : Mv S w w') (hS : ¬ S 0) : AddsMet w' := fun i hi => by
  have hl := World.block_lt_of_cell? w _ (h i hi)
  rw [World.cell?_of_block (a := ⟨0, i, none⟩) (w := w) (hb.block _ hl hS)]
  exact h i hi
/-- A state as the model has it. -/
def stC (s : St) : List Value := [.int .u32 (s.a : Nat), .int .u32 (s.b : Nat), .int .u32 (s.c : Nat), .int .u32 (s.d : Nat), .int .u32 (s.e : Nat), .int .u32 (s.f : Nat), .int .u32 (s.g : Nat), .int .u32 (s.h : Nat)]
def stV (s : St) : Value := .agg (stC s).toArray
theorem stV_eq (s : St) : stV s = .agg #[.int .u32 (s.a : Nat), .int .u32 (s.b : Nat), .int .u32 (s.c : Nat), .int .u32 (s.d : Nat), .int .u32 (s.e : Nat), .int .u32 (s.f : Nat), .int .u32 (s.g : Nat), .int .u32 (s.h : Nat)] := rfl
theorem stC_get (s : St) (i : Nat) (h : i < 8) : (stC s)[i]? = some (.int .u32 (s.at i : Nat)) := by
  have : i = 0 ∨ i = 1 ∨ i = 2 ∨ i = 3 ∨ i = 4 ∨ i = 5 ∨ i = 6 ∨ i = 7 := by omega
  rcases this with rfl | rfl | rfl | rfl | rfl | rfl | rfl | rfl <;> rfl
theorem words_eq {cs : Array Value} {l : List Value} (hs : cs.size = l.length) (h : ∀ i, i < l.length → cs[i]? = l[i]?) : cs = l.toArray := by
  apply Array.ext
  · simpa using hs
  · intro i h1 h2
    have := h i (by simpa using h2)
    rw [Array.getElem?_eq_getElem h1, List.getElem?_eq_getElem (by simpa using h2)] at this
    simpa using this
theorem WordsAt.put {w : World} {b : Nat} {t : TypeId} {n k : Nat} {f g : Nat → Nat} {i : Nat} {x : Int} (h : WordsAt w b t n k f) (hi : i < k) (hk : k ≤ n) (hx : x = (g i : Nat)) (hg : ∀ j, j ≠ i → g j = f j) : WordsAt (w.setCell ⟨b, i, none⟩ (.int .u32 x)) b t n k g := by
  obtain ⟨cs, hb, hn, hf⟩ := h
  refine ⟨_, set_blk hb i _, by simp [hn], fun j hj => ?_⟩
  rw [Array.getElem?_setIfInBounds]
  by_cases e : i = j
  · subst e; rw [if_pos rfl, if_pos (by omega), hx]
  · rw [if_neg e, hg j (fun h => e h.symm)]; exact hf j hj
theorem u32eq {x y : Int} (h : x = y) : Value.int .u32 x = .int .u32 y := by rw [h]
theorem not32 {e : Nat} (h : e < 4294967296) : bits .xor .u32 IntKind.u32.max (e : Int) = ((e ^^^ 4294967295 : Nat) : Int) := by
  have e1 : IntKind.u32.max = ((4294967295 : Nat) : Int) := by decide
  rw [e1, u32_xor_nat _ _ (by omega) h, Nat.xor_comm]
theorem xor3 {a b c : Nat} (ha : a < 4294967296) (hb : b < 4294967296) (hc : c < 4294967296) : bits .xor .u32 (bits .xor .u32 (a : Int) (b : Int)) (c : Int) = ((a ^^^ b ^^^ c : Nat) : Int) := by
  rw [u32_xor_nat _ _ ha hb, u32_xor_nat _ _ (xor_lt32 ha hb) hc]
theorem ch_in {e f g : Nat} (he : e < 4294967296) (hf : f < 4294967296) (hg : g < 4294967296) :
    bits .xor .u32 (bits .and .u32 (e : Int) (f : Int)) (bits .and .u32 (bits .xor .u32 IntKind.u32.max (e : Int)) (g : Int)) = ((chW e f g : Nat) : Int) := by
  rw [not32 he, u32_and_nat _ _ he hf, u32_and_nat _ _ (xor_lt32 he (by decide)) hg, u32_xor_nat _ _ (and_lt32 he) (and_lt32 (xor_lt32 he (by decide)))]
  rfl
theorem maj_in {a b c : Nat} (ha : a < 4294967296) (hb : b < 4294967296) (hc : c < 4294967296) :
    bits .xor .u32 (bits .xor .u32 (bits .and .u32 (a : Int) (b : Int)) (bits .and .u32 (a : Int) (c : Int))) (bits .and .u32 (b : Int) (c : Int)) = ((majW a b c : Nat) : Int) := by
  rw [u32_and_nat _ _ ha hb, u32_and_nat _ _ ha hc, u32_and_nat _ _ hb hc, xor3 (and_lt32 ha) (and_lt32 ha) (and_lt32 hb)]
  rfl

section
set_option maxHeartbeats 1600000
set_option maxRecDepth 100000
theorem mixed_any (w : World) (s : St) (hs : s.Ok) (A : Option Addr) (ca n : Nat) (xs : List UInt8) (ht : AddsMet w) (hn : xs.length = n) (hx : Rd w A (xs.map Bv)) (hl : 64 ≤ n) (hm : n ≤ 9223372036854775807) :
    Calls Tryd.prog 45 #[stV s, .slice A n ca] w fun e w' => e = .returned (stV (blockS s xs)) ∧ Below w.heap.size w w' := by
  have HN := Lib.hid hn; clear hn
  have HT := Lib.hid ht; clear ht
  rw [stV_eq]
  go_enter Tryd.func45, Tryd.ntmps45
  go_wp2_with fail
  have hb0 := ((Below.refl _ w).alloc (Nat.le_refl _) (.cells #[.int .u32 (s.a : Nat), .int .u32 (s.b : Nat), .int .u32 (s.c : Nat), .int .u32 (s.d : Nat), .int .u32 (s.e : Nat), .int .u32 (s.f : Nat), .int .u32 (s.g : Nat), .int .u32 (s.h : Nat)] 49)).alloc (by simp) (.cells #[.int .u32 0, .int .u32 0, .int .u32 0, .int .u32 0, .int .u32 0, .int .u32 0, .int .u32 0, .int .u32 0] 49)
  have hg0 := heap_alloc2_old w (.cells #[.int .u32 (s.a : Nat), .int .u32 (s.b : Nat), .int .u32 (s.c : Nat), .int .u32 (s.d : Nat), .int .u32 (s.e : Nat), .int .u32 (s.f : Nat), .int .u32 (s.g : Nat), .int .u32 (s.h : Nat)] 49) (.cells #[.int .u32 0, .int .u32 0, .int .u32 0, .int .u32 0, .int .u32 0, .int .u32 0, .int .u32 0, .int .u32 0] 49)
  have hg1 := heap_alloc_new2 w (.cells #[.int .u32 (s.a : Nat), .int .u32 (s.b : Nat), .int .u32 (s.c : Nat), .int .u32 (s.d : Nat), .int .u32 (s.e : Nat), .int .u32 (s.f : Nat), .int .u32 (s.g : Nat), .int .u32 (s.h : Nat)] 49) (.cells #[.int .u32 0, .int .u32 0, .int .u32 0, .int .u32 0, .int .u32 0, .int .u32 0, .int .u32 0, .int .u32 0] 49)
  have hz0 : ((w.alloc (.cells #[.int .u32 (s.a : Nat), .int .u32 (s.b : Nat), .int .u32 (s.c : Nat), .int .u32 (s.d : Nat), .int .u32 (s.e : Nat), .int .u32 (s.f : Nat), .int .u32 (s.g : Nat), .int .u32 (s.h : Nat)] 49)).alloc (.cells #[.int .u32 0, .int .u32 0, .int .u32 0, .int .u32 0, .int .u32 0, .int .u32 0, .int .u32 0, .int .u32 0] 49)).heap.size = w.heap.size + 2 := by simp
  refine (spread_any _ A ca n xs HN.out (hx.below hb0) hl hm).mono ?_
  rintro e w1 ⟨cs, rfl, hcz, hcf, hb1⟩
  have hg0' := (hb1.block _ (by rw [hz0]; omega)).trans hg0
  have hg1' := (hb1.block _ (by rw [hz0]; omega)).trans hg1
  have hz1 : w.heap.size + 2 ≤ w1.heap.size := by have := hb1.size; omega
  have hb1' := hb0.trans (hb1.mono (by omega))
  have hlw : w.heap.size ≤ w.heap.size + 2 := by omega
  clear hg0 hg1 hz0 hb0 hb1
  have h1c : ∀ v ∈ cs.toList, v.oneCell' = true := by
    intro v hv
    obtain ⟨i, hi, e⟩ := List.getElem_of_mem hv
    have := hcf i (by simp at hi; omega)
    rw [Array.getElem?_eq_getElem (by simpa using hi)] at this
    have e2 : cs[i]'(by simpa using hi) = v := by simpa using e
    rw [e2] at this
    injection this with this; rw [this]; rfl
  have hil : (Tryd.prog.info? 70).map (·.size) = some cs.toList.length := by rw [Array.length_toList, hcz]; kernel_rfl
  have HCF := Lib.hid hcf; clear hcf
  have HCZ := Lib.hid hcz; clear hcz
  have H1 := Lib.hid h1c; clear h1c
  have HIL := Lib.hid hil; clear hil
  have HG0 := Lib.hid hg0'; clear hg0'
  have HG1 := Lib.hid hg1'; clear hg1'
  have HT1 := Lib.hid (HT.out.below hb1'); clear HT
  obtain ⟨cl, hcl⟩ : ∃ cl, cl = cs.toList := ⟨_, rfl⟩
  rw [← hcl] at H1 HIL
  have hcc : cs = cl.toArray := by rw [hcl]
  rw [hcc] at HCF HCZ
  rw [hcc]
  clear hcl hcc
  go_wp2_with (first
    | (refine wpList_store_agg (o := ⟨none, _, _, _, _, _⟩) ?_ 70 (.tmp 5) (.tmp 24) ?_ w1.heap.size 0 cl ?_ ?_ 70 (Array.replicate 64 (.int .u32 0)) (heap_alloc_new w1 _) HIL.out ?_ H1.out ?_; rfl; rfl; rfl; rfl; (have := HCZ.out; simp at this; simp [this]); intro w4 hg4 hm4 hs4)
    | fail)
  have hsz4 : w4.heap.size = w1.heap.size + 1 := by rw [hs4]; simp
  have hg5 : w4.heap[w1.heap.size]? = some (.cells cl.toArray 70 (0, 0)) := by
    rw [hg4]
    have := HCZ.out
    congr 2
    simp at this
    simp [spl, splice, this, List.drop_eq_nil_of_le]
  have hS := (hm4.block w.heap.size (by simp; omega) (by omega)).trans ((heap_alloc_old w1 _ (by omega)).trans HG0.out)
  have hR := (hm4.block (w.heap.size + 1) (by simp; omega) (by omega)).trans ((heap_alloc_old w1 _ (by omega)).trans HG1.out)
  have hb4 : Below w.heap.size w w4 := (hb1'.alloc (by omega) _).trans (hm4.belowB (by simp; omega) (fun k hk e => by omega))
  have hlt0 : 0 < w1.heap.size := World.block_lt_of_cell? w1 _ (HT1.out 0 (by decide))
  have ht4 : AddsMet w4 := AddsMet.mv (HT1.out.below ((Below.refl _ w1).alloc (Nat.le_refl _) _)) hm4 (by intro e; omega)
  clear hg4 hm4 hs4 HG0 HG1 hb1' HT1 hlt0
  have HT := Lib.hid ht4; clear ht4
  have HG := Lib.hid hg5; clear hg5
  have HZ := Lib.hid hsz4; clear hsz4
  have c0 := cell_blk hS 0
  have c1 := cell_blk hS 1
  have c2 := cell_blk hS 2
  have c3 := cell_blk hS 3
  have c4 := cell_blk hS 4
  have c5 := cell_blk hS 5
  have c6 := cell_blk hS 6
  have c7 := cell_blk hS 7
  have HS := Lib.hid hS; clear hS
  have HR := Lib.hid hR; clear hR
  have HCL : Hid (∀ (j : Nat) v, cl[j]? = some v → w4.cell? ⟨w1.heap.size, 0 + j, none⟩ = some v) := by
    have h : ∀ (j : Nat) v, cl[j]? = some v → w4.cell? ⟨w1.heap.size, 0 + j, none⟩ = some v := by
      intro j v hv; rw [cell_blk HG.out, Nat.zero_add]; simpa using hv
    exact Lib.hid h
  go_wp2
  go_quiet (fail)
  go_wp2
  go_quiet (fail)
  go_wp2_with (first
    | (refine wpList_load_agg (o := ⟨some 41, _, _, _, _, _⟩) ?_ 70 (.tmp 5) ?_ w1.heap.size 0 ?_ cl ?_ ?_ ?_ ?_; rfl; rfl; rfl; kernel_rfl; exact HIL.out; exact (fun j v hv => HCL.out j v hv))
    | fail)
  clear c0 c1 c2 c3 c4 c5 c6 c7
  generalize hw5 : w4.drewN _ = w5
  have hS5 : w5.heap[w.heap.size]? = some (.cells (stC s).toArray 49 (0, 0)) := by subst hw5; exact HS.out
  have hR5 : w5.heap[w.heap.size + 1]? = some (.cells (Array.replicate 8 (.int .u32 0)) 49 (0, 0)) := by subst hw5; exact HR.out
  have hT5 : AddsMet w5 := by subst hw5; exact HT.out
  have hb5 : Below w.heap.size w w5 := by subst hw5; exact below_drewN hb4 _
  clear HS HR HT hb4
  have HS := Lib.hid hS5; clear hS5
  have HR := Lib.hid hR5; clear hR5
  have HT := Lib.hid hT5; clear hT5
  clear hw5
  go_loop [6, 7, 8, 9, 10, 11, 12, 13, 42] (fun v6 v7 v8 v9 v10 v11 v12 v13 i => ∃ k : Nat, k ≤ 64 ∧ i = .int .i64 k ∧ v6 = .int .u32 ((rounds xs s k).a : Nat) ∧ v7 = .int .u32 ((rounds xs s k).b : Nat) ∧ v8 = .int .u32 ((rounds xs s k).c : Nat) ∧ v9 = .int .u32 ((rounds xs s k).d : Nat)
      ∧ v10 = .int .u32 ((rounds xs s k).e : Nat) ∧ v11 = .int .u32 ((rounds xs s k).f : Nat) ∧ v12 = .int .u32 ((rounds xs s k).g : Nat) ∧ v13 = .int .u32 ((rounds xs s k).h : Nat)) (fun _ _ _ _ _ _ _ _ i => 64 - (intOf i).toNat)
  case atStart => exact ⟨0, by omega, rfl, rfl, rfl, rfl, rfl, rfl, rfl, rfl, rfl⟩
  case round =>
    obtain ⟨k, hk, rfl, rfl, rfl, rfl, rfl, rfl, rfl, rfl, rfl⟩ := hrel
    by_cases hlt : k < 64
    · have ok := rounds_ok xs hs k
      have hix := fun (u : World) => run_index_agg (P := Tryd.prog) u 70 48 64 k cl.toArray _ Tryd.underlying70 (by kernel_rfl) (by kernel_rfl) (by kernel_rfl) hlt (HCF.out k hlt)
      have htb := HT.out k hlt
      have hKl := kL_lt k
      have hWl := wW_lt xs k
      have hr : rounds xs s (k + 1) = rnd (rounds xs s k) (kL.getD k 0) (wW xs k) := rfl
      generalize rounds xs s k = t at *
      generalize kL.getD k 0 = K at *
      generalize wW xs k = W at *
      obtain ⟨a, b, c, d, e, f, g, h⟩ := t
      obtain ⟨oa, ob, oc, od, oe, of_, og, oh⟩ := ok
      simp only at oa ob oc od oe of_ og oh
      have f1 := xor3 (rotr_lt (n := 6) oe) (rotr_lt (n := 11) oe) (rotr_lt (n := 25) oe)
      have f0 := xor3 (rotr_lt (n := 2) oa) (rotr_lt (n := 13) oa) (rotr_lt (n := 22) oa)
      have fc := ch_in oe of_ og
      have fm := maj_in oa ob oc
      have l1 := Sg1_lt oe
      have l0 := Sg0_lt oa
      have lc := chW_lt (e := e) (f := f) (g := g) oe
      have lm := majW_lt (a := a) (b := b) (c := c) oa ob
      change _ = ((Sg1 e : Nat) : Int) at f1
      change _ = ((Sg0 a : Nat) : Int) at f0
      have ra : (rounds xs s (k + 1)).a = ((h + Sg1 e + chW e f g + K + W) % 4294967296 + Sg0 a + majW a b c) % 4294967296 := by rw [hr]; rfl
      have re : (rounds xs s (k + 1)).e = (d + (h + Sg1 e + chW e f g + K + W) % 4294967296) % 4294967296 := by rw [hr]; rfl
      have rb : (rounds xs s (k + 1)).b = a := by rw [hr]; rfl
      have rc : (rounds xs s (k + 1)).c = b := by rw [hr]; rfl
      have rd : (rounds xs s (k + 1)).d = c := by rw [hr]; rfl
      have rf : (rounds xs s (k + 1)).f = e := by rw [hr]; rfl
      have rg : (rounds xs s (k + 1)).g = f := by rw [hr]; rfl
      have rh : (rounds xs s (k + 1)).h = g := by rw [hr]; rfl
      clear hr
      generalize Sg1 e = y1 at *
      generalize Sg0 a = y0 at *
      generalize chW e f g = yc at *
      generalize majW a b c = ym at *
      have RA := Lib.hid ra; have RE := Lib.hid re; have RB := Lib.hid rb; have RC := Lib.hid rc; have RD := Lib.hid rd; have RF := Lib.hid rf; have RG := Lib.hid rg; have RH := Lib.hid rh
      clear ra rb rc rd re rf rg rh
      go_wp2_with fail
      refine (rot32_any e 6 _ oe (by decide) (by decide)).mono ?_
      rintro _ w' ⟨rfl, rfl⟩
      go_wp2_with fail
      refine (rot32_any e 11 _ oe (by decide) (by decide)).mono ?_
      rintro _ w' ⟨rfl, rfl⟩
      go_wp2_with fail
      refine (rot32_any e 25 _ oe (by decide) (by decide)).mono ?_
      rintro _ w' ⟨rfl, rfl⟩
      go_wp2_with fail
      refine (rot32_any a 2 _ oa (by decide) (by decide)).mono ?_
      rintro _ w' ⟨rfl, rfl⟩
      go_wp2_with fail
      refine (rot32_any a 13 _ oa (by decide) (by decide)).mono ?_
      rintro _ w' ⟨rfl, rfl⟩
      go_wp2_with fail
      refine (rot32_any a 22 _ oa (by decide) (by decide)).mono ?_
      rintro _ w' ⟨rfl, rfl⟩
      go_wp2
      go_round
      case rel => exact ⟨k + 1, by omega, by go_num, u32eq (by rw [RA.out]; omega), u32eq (by rw [RB.out]), u32eq (by rw [RC.out]), u32eq (by rw [RD.out]), u32eq (by rw [RE.out]; omega), u32eq (by rw [RF.out]), u32eq (by rw [RG.out]), u32eq (by rw [RH.out])⟩
      case measure => simp [intOf]; omega
    · have e64 : rounds xs s k = rounds xs s 64 := by rw [show k = 64 from by omega]
      rw [e64]
      clear e64
      have ok := rounds_ok xs hs 64
      obtain ⟨t, hT⟩ : ∃ t, t = rounds xs s 64 := ⟨_, rfl⟩
      rw [← hT] at ok ⊢
      have HTT := Lib.hid hT; clear hT
      have hW0 : WordsAt w5 w.heap.size 49 8 8 (fun i => if i < 0 then (addS s t).at i else s.at i) := ⟨_, HS.out, rfl, fun i hi => by
        have := stC_get s i hi
        simpa using this⟩
      have hR0 : WordsAt w5 (w.heap.size + 1) 49 8 0 (fun i => 0) := ⟨_, HR.out, rfl, fun i hi => by omega⟩
      go_wp2
      obtain ⟨w6, hw6⟩ : ∃ w6, w6 = w5 := ⟨_, rfl⟩
      rw [← hw6]
      rw [← hw6] at hW0 hR0 hb5
      go_loopw [116] (fun i wr => ∃ k : Nat, k ≤ 8 ∧ i = .int .i64 k ∧ WordsAt wr w.heap.size 49 8 8 (fun i => if i < k then (addS s t).at i else s.at i) ∧ WordsAt wr (w.heap.size + 1) 49 8 0 (fun i => 0) ∧ Below w.heap.size w wr) (fun i _ => 8 - (intOf i).toNat)
      case atStart => exact ⟨0, by omega, rfl, hW0, hR0, hb5⟩
      clear hW0 hR0 hb5 hw6
      case round =>
        obtain ⟨j, hj, rfl, hW, hR, hb⟩ := hrel
        by_cases hlt8 : j < 8
        · have hix := fun (u : World) => run_index_agg (P := Tryd.prog) u 49 48 8 j (stC t).toArray _ Tryd.underlying49 (by kernel_rfl) (by kernel_rfl) (by kernel_rfl) hlt8 (by simpa using stC_get t j hlt8)
          simp only [stC] at hix
          have hc := hW.get hlt8
          rw [if_neg (Nat.lt_irrefl j)] at hc
          have hfz := hW.free j
          have hsl := hs.at j
          have htl := ok.at j
          have hadd := addS_at s t j
          have HADD := Lib.hid hadd; clear hadd
          generalize s.at j = x at *
          generalize t.at j = y at *
          go_wp2
          go_roundw
          case rel => exact ⟨j + 1, by omega, by go_num, hW.put (i := j) hlt8 (by omega) (by rw [if_pos (Nat.lt_succ_self j), HADD.out]; omega) (fun q hq => by
              by_cases h1 : q < j
              · rw [if_pos h1, if_pos (by omega)]
              · rw [if_neg h1, if_neg (by omega)]), hR.block (heap_setCell_other _ _ _ _ (by simp)), hb.setCell (by simp) _⟩
          case measure => simp [intOf]; omega
        · have e8 : j = 8 := by omega
          obtain ⟨cs2, hg2, hz2, hf2⟩ := hW
          obtain ⟨zs2, hg3, hz3, _⟩ := hR
          have hcs2 : cs2 = (stC (addS s t)).toArray := by
            refine words_eq hz2 fun i hi => ?_
            have hi8 : i < 8 := hi
            rw [hf2 i hi8, stC_get _ _ hi8]
            exact congrArg (fun z : Nat => some (Value.int .u32 (z : Int))) (if_pos (by omega))
          rw [hcs2] at hg2
          have HG2 := Lib.hid hg2; clear hg2
          have HG3 := Lib.hid hg3; clear hg3
          have HZ3 := Lib.hid hz3; clear hz3
          clear hcs2 hf2 hz2 e8
          obtain ⟨sl, hsl⟩ : ∃ sl, sl = stC (addS s t) := ⟨_, rfl⟩
          have hslen : sl.length = 8 := by rw [hsl]; rfl
          rw [← hsl] at HG2
          have HSL := Lib.hid hsl; clear hsl
          have HSLN := Lib.hid hslen; clear hslen
          go_wp2_with (first
            | (refine wpList_load_agg (o := ⟨some 127, _, _, _, _, _⟩) ?_ 49 (.tmp 2) ?_ w.heap.size 0 ?_ sl ?_ ?_ ?_ ?_; rfl; rfl; rfl; kernel_rfl; (rw [HSLN.out]; kernel_rfl); (intro i v hv; rw [cell_blk HG2.out, Nat.zero_add]; simpa using hv))
            | (refine wpList_store_agg (o := ⟨none, _, _, _, _, _⟩) ?_ 49 (.tmp 4) (.tmp 127) ?_ (w.heap.size + 1) 0 sl ?_ ?_ 49 zs2 HG3.out ?_ ?_ ?_ ?_; rfl; rfl; rfl; rfl; (rw [HSLN.out]; kernel_rfl); (rw [HSLN.out, HZ3.out]; decide); (rw [HSL.out]; intro v hv; simp only [stC, List.mem_cons, List.not_mem_nil, or_false] at hv; rcases hv with rfl | rfl | rfl | rfl | rfl | rfl | rfl | rfl <;> rfl); intro w7 hg7 hm7 hs7)
            | fail)
          have hg8 : w7.heap[w.heap.size + 1]? = some (.cells sl.toArray 49 (0, 0)) := by
            rw [hg7]
            congr 2
            simp [spl, splice, HSLN.out, HZ3.out, List.drop_eq_nil_of_le]
          have HG8 := Lib.hid hg8; clear hg8 hg7 hs7
          refine bodyPost_cell rfl (w.heap.size + 1) 49 sl.toArray rfl HG8.out (by kernel_rfl) (by rw [List.size_toArray, HSLN.out]; kernel_rfl) rfl ⟨?_, hb.trans (hm7.belowB (by have := hb.size; omega) (fun k hk e => by omega))⟩
          rw [HSL.out, HTT.out]
          rfl
end
end
end Go.Proofs.YtgpmghnemhngeaaDoor
