/-
  New: matchers that are asked together, or what is wrong with them. Right, a Set's Match, and All. A Set's List.
-/
import Derived.Test.YtjgappbomohlcaaGreatDoorKMr
import Derived.Test.YtjgappbomohlcaaGreatDoorK01
namespace Go.Proofs.YtjgappbomohlcaaGreatDoor
section
set_option linter.unusedVariables false
set_option linter.unusedSimpArgs false
section
set_option linter.unusedVariables false
set_option linter.unusedSimpArgs false
open Go.RowKit
/-- The cells of matchers that are ready. -/
def rcells : List (Mt' × Value) → List Value
  | [] => []
  | x :: r => .int .i64 x.1.1 :: .string x.1.2.1 :: .string x.1.2.2 :: x.2 :: rcells r
theorem rcells_len : ∀ l, (rcells l).length = l.length * 4
  | [] => rfl
  | x :: r => by simp only [rcells, List.length_cons, rcells_len r]; omega
theorem rcells_append : ∀ l m, rcells (l ++ m) = rcells l ++ rcells m
  | [], m => rfl
  | x :: r, m => by simp only [List.cons_append, rcells, rcells_append r m]
theorem rcells_at : ∀ (l : List (Mt' × Value)) (k : Nat) (h : k < l.length), (rcells l)[k * 4]? = some (.int .i64 l[k].1.1) ∧ (rcells l)[k * 4 + 1]? = some (.string l[k].1.2.1) ∧ (rcells l)[k * 4 + 2]? = some (.string l[k].1.2.2) ∧ (rcells l)[k * 4 + 3]? = some l[k].2
  | [], k, h => absurd h (Nat.not_lt_zero _)
  | x :: r, 0, h => by simp [rcells]
  | x :: r, k + 1, h => by
    have ih := rcells_at r k (by simpa using h)
    rw [show (k + 1) * 4 = k * 4 + 1 + 1 + 1 + 1 by omega]
    refine ⟨?_, ?_, ?_, ?_⟩
    · simp only [rcells, List.getElem?_cons_succ, List.getElem_cons_succ]; exact ih.1
    · rw [show k * 4 + 1 + 1 + 1 + 1 + 1 = (k * 4 + 1) + 1 + 1 + 1 + 1 by omega]; simp only [rcells, List.getElem?_cons_succ, List.getElem_cons_succ]; exact ih.2.1
    · rw [show k * 4 + 1 + 1 + 1 + 1 + 2 = (k * 4 + 2) + 1 + 1 + 1 + 1 by omega]; simp only [rcells, List.getElem?_cons_succ, List.getElem_cons_succ]; exact ih.2.2.1
    · rw [show k * 4 + 1 + 1 + 1 + 1 + 3 = (k * 4 + 3) + 1 + 1 + 1 + 1 by omega]; simp only [rcells, List.getElem?_cons_succ, List.getElem_cons_succ]; exact ih.2.2.2
/-- A Set in block b, of these matchers. -/
structure SetIs (w : World) (b : Nat) (l : List Mt') : Prop where
  box : ∃ g c L cur, w.heap[b]? = some (.cells #[.slice (some ⟨g, 0, none⟩) l.length c] 136 (0, 0)) ∧ w.heap[g]? = some (.cells cur 132 (0, 0)) ∧ l.length ≤ c ∧ c ≤ maxLen ∧ cur.toList.take (l.length * 4) = rcells L ∧ L.map (·.1) = l ∧ ∀ x ∈ L, FormOk w x.1 x.2
theorem SetIs.below {w w' : World} {b : Nat} {l : List Mt'} (h : SetIs w b l) (hb : RowKit.Below w.heap.size w w') : SetIs w' b l := by
  obtain ⟨g, c, L, cur, h1, h2, h3, h4, h5, h6, h7⟩ := h.box
  exact ⟨g, c, L, cur, (hb.block b (blk_lt h1)).trans h1, (hb.block g (blk_lt h2)).trans h2, h3, h4, h5, h6, fun x hx => (h7 x hx).below hb⟩
def NwOut (w : World) (l : List Mt') (c : Nat) (e : Ending) (w' : World) : Prop :=
  if c = 0 then ∃ b, e = .returned (.tuple #[.pointer (some ⟨b, 0, none⟩), .int .i64 0]) ∧ w.heap.size ≤ b ∧ SetIs w' b l ∧ RowKit.Below w.heap.size w w'
  else e = .returned (.tuple #[.pointer none, .int .i64 (c : Nat)]) ∧ RowKit.Below w.heap.size w w'
theorem FormOk.mvd {w w' : World} {m : Mt'} {f : Value} {g : Nat} {cs : Array Value} (h : FormOk w m f) (hg : w.heap[g]? = some (.cells cs 132 (0, 0))) (hm : Mv (fun k => k = g) w w') : FormOk w' m f := by
  unfold FormOk at h ⊢
  split
  · rename_i e; rw [if_pos e] at h; exact h
  · rename_i e; rw [if_neg e] at h
    obtain ⟨b, t, h1, h2, h3⟩ := h
    exact ⟨b, t, h1, h2, h3.mvd hg hm⟩
theorem made_mr {w : World} {B g n : Nat} {xs : List Value} (h : w.ownsRow B 132 4 (.slice (some ⟨g, 0, none⟩) n n) n xs) : ∃ cur, w.heap[g]? = some (.cells cur 132 (0, 0)) ∧ cur.size = n * 4 := by
  rcases h.2 with ⟨h1, _⟩ | ⟨g', cap', cur, e, hB, hg, hnc, hcm, hcs, htk⟩
  · cases h1
  · injection e with e1 e2 e3
    injection e1 with e1; injection e1 with e1
    subst e1; subst e3
    exact ⟨cur, hg, hcs⟩
theorem spl_take {cur : Array Value} {L : List (Mt' × Value)} {k : Nat} {x : Mt' × Value} (h : cur.toList.take (k * 4) = rcells L) (hk : L.length = k) (hf : k * 4 + 4 ≤ cur.size) : (spl cur (k * 4) (rcells [x])).toList.take ((k + 1) * 4) = rcells (L ++ [x]) := by
  rw [rcells_append, ← h]
  have h1 : (cur.toList.take (k * 4) ++ rcells [x]).length = (k + 1) * 4 := by rw [List.length_append, List.length_take, rcells_len]; simp; omega
  unfold spl splice
  rw [← List.append_assoc, List.take_append_of_le_length (by omega), List.take_of_length_le (by omega)]
theorem checks_at {l : List Mt'} {k : Nat} (h : k < l.length) (h0 : ∀ m ∈ l.take k, checkM m = 0) (he : checkM l[k] ≠ 0) : checksM l = checkM l[k] := by
  induction l generalizing k with
  | nil => cases h
  | cons m r ih =>
    cases k with
    | zero =>
      unfold checksM
      exact if_pos he
    | succ k =>
      have hm := h0 m (by simp)
      unfold checksM
      rw [if_neg (by simp [hm])]
      exact ih (by simpa using h) (fun x hx => h0 x (by simp [hx])) he
theorem bare_step {l : List Mt'} {k : Nat} (h : k < l.length) : bareM (l.take (k + 1)) = (bareM (l.take k) && passM l[k] noneB) := by
  unfold bareM
  rw [List.take_succ_eq_append_getElem h, List.all_append]; simp
section
set_option maxHeartbeats 3200000
set_option maxRecDepth 100000
theorem mnew_any (A : Option Addr) (ca : Nat) (l : List Mt') (w : World) (hx : Rd w A (mcells l)) (hT : Tabs w) (hl : l.length ≤ 100000) (hv : ∀ m ∈ l, m.2.2.size ≤ 1000000) :
    Calls Tryz.prog 76 #[.slice A l.length ca] w (NwOut w l (rightM l)) := by
  obtain ⟨C, hC⟩ : ∃ C, rightM l = C := ⟨_, rfl⟩
  rw [hC]
  unfold rightM at hC
  by_cases h16 : 16 < l.length
  · rw [if_pos h16] at hC
    subst hC
    have g16 : (16 : Int) < (l.length : Int) := by omega
    clear hx hv hT
    go_enter Tryz.func76, Tryz.ntmps76
    go_wp2
    go_ret2
    unfold NwOut; rw [if_neg (by decide)]
    exact ⟨rfl, RowKit.Below.refl _ _⟩
  · rw [if_neg h16] at hC
    have g16 : ¬ (16 : Int) < (l.length : Int) := by omega
    obtain ⟨i0, hi, hz0, hz1, hz2⟩ := info_parts infoMr
    have HX := Lib.hid hx; have HV := Lib.hid hv; have HT := Lib.hid hT; have HC := Lib.hid hC
    clear hx hv hT hC
    go_enter Tryz.func76, Tryz.ntmps76
    go_wp2_with (first
      | (at_make; go_must (refine wpList_make_full _ rfl _ _ 129 rfl w.heap.size 132 i0 (.agg #[.int .i64 0, .string ⟨#[]⟩, .string ⟨#[]⟩, .pointer none]) 4 Tryz.underlying129 hi hz0 hz1 _ _ _ _ l.length rfl rfl rfl rfl (by rw [hz2]; omega) (by unfold maxLen; omega) (Nat.le_refl _) ?_; intro w1 hown hgr; obtain ⟨cur0, hcg, hcs⟩ := made_mr hown; have hb1 : RowKit.Below w.heap.size w w1 := (RowKit.Below.refl _ w).grown hgr (Nat.le_refl _) (fun k e => by cases e); have HB1 := Lib.hid hb1; clear hb1; have HCG := Lib.hid hcg; have HCS := Lib.hid hcs; clear hcg hcs hgr hown))
      | fail)
    clear hi hz0 hz1 hz2
    go_loopw [18, 5] (fun s18 s5 wr => ∃ (k : Nat) (L : List (Mt' × Value)) (cur : Array Value), s18 = .int .i64 k ∧ k ≤ l.length ∧ s5 = .bool (bareM (l.take k)) ∧ L.map (·.1) = l.take k ∧ cur.size = l.length * 4 ∧ Aside (wr.heap[w.heap.size]? = some (.cells cur 132 (0, 0))) ∧ Aside (cur.toList.take (k * 4) = rcells L) ∧ Aside (∀ x ∈ L, FormOk wr x.1 x.2) ∧ Aside (RowKit.Below w.heap.size w wr) ∧ Aside (∀ m ∈ l.take k, checkM m = 0)) (fun s18 _ _ => l.length - (intOf s18).toNat)
    case atStart => exact ⟨0, [], cur0, rfl, by omega, rfl, rfl, HCS.out, HCG.out, rfl, fun x hx => (by cases hx), HB1.out, fun m hm => (by simp at hm)⟩
    case round =>
      obtain ⟨k, L, cur, rfl, hk, rfl, hL, hcs, HG, HTK, HF, BW, E0⟩ := hrel
      have k0 : (0 : Int) ≤ (k : Int) := by omega
      have hLl : L.length = k := by have := congrArg List.length hL; rw [List.length_map, List.length_take] at this; omega
      by_cases hlt : k < l.length
      · have k1 : (k : Int) < (l.length : Int) := by omega
        obtain ⟨b, off, rfl, c0, c1, c2⟩ := mt_at (HX.out.below BW.out) hlt
        have hbs := bare_step hlt
        have hvk := HV.out l[k] (List.getElem_mem hlt)
        have hchk := checks_at hlt E0.out
        have htk : l.take (k + 1) = l.take k ++ [l[k]] := List.take_succ_eq_append_getElem hlt
        generalize l[k] = x at c0 c1 c2 hbs hvk hchk htk
        obtain ⟨x1, x2, x3⟩ := x
        simp only at c0 c1 c2 hvk
        have hba : RowKit.Below w.heap.size w (wr.alloc (.cells #[.int .i64 x1, .string x2, .string x3] 66)) := BW.out.alloc BW.out.size _
        have hr := ready_any (x1, x2, x3) _ (HT.out.below hba) hvk
        have HBA := Lib.hid hba
        unfold aggMt at hr
        simp only at hr
        have HR := Lib.hid hr
        have HHC := Lib.hid hchk; have HBS := Lib.hid hbs; have HTKK := Lib.hid htk
        clear hr hba hvk hchk hbs htk
        go_wp2_with fail
        refine HR.out.mono ?_
        intro e w2 ho
        unfold RyOut at ho
        by_cases hc : checkM (x1, x2, x3) = 0
        · rw [if_pos hc] at ho
          obtain ⟨f, rfl, hf, hb2⟩ := ho
          obtain ⟨p, rfl⟩ := hf.ptr
          have hb2' := HBA.out.trans (hb2.mono HBA.out.size)
          obtain ⟨W, hW⟩ : ∃ W, W = w2.alloc (.cells #[.int .i64 x1, .string x2, .string x3, .pointer p] 132) := ⟨_, rfl⟩
          have hbx : RowKit.Below w2.heap.size w2 W := by rw [hW]; exact (RowKit.Below.refl _ w2).alloc (Nat.le_refl _) _
          have hbr : RowKit.Below wr.heap.size wr W := (((RowKit.Below.refl _ wr).alloc (Nat.le_refl _) _).trans (hb2.mono (by simp))).trans (hbx.mono (by have := hb2.size; simp at this; omega))
          have hgW := (hbr.block _ (blk_lt HG.out)).trans HG.out
          have hfW := hf.below hbx
          have hFW : ∀ x ∈ L, FormOk W x.1 x.2 := fun x hx => (HF.out x hx).below hbr
          have HBW := Lib.hid (BW.out.trans (hbr.mono BW.out.size))
          have hbxx : W.heap[w2.heap.size]? = some (.cells #[.int .i64 x1, .string x2, .string x3, .pointer p] 132 (0, 0)) := by rw [hW]; exact heap_alloc_new w2 _
          have hne : w2.heap.size ≠ w.heap.size := by have h1 := hb2.size; have h2 := BW.out.size; have h3 := blk_lt HG.out; simp at h1; omega
          have HGW := Lib.hid hgW; have HFX := Lib.hid hfW; have HFW := Lib.hid hFW; have HBX := Lib.hid hbxx; have HW := Lib.hid hW; have HCK := Lib.hid hc
          have hcell : ∀ v ∈ rcells [((x1, x2, x3), Value.pointer p)], v.oneCell' = true := by
            intro v hv; simp [rcells] at hv; rcases hv with rfl | rfl | rfl | rfl <;> rfl
          have HCELL := Lib.hid hcell
          clear hb2 hb2' hbx hbr hgW hfW hFW hbxx hcell hf hW
          have hszL := spl_take (x := ((x1, x2, x3), Value.pointer p)) HTK.out hLl (by omega)
          have hspl : (spl cur (k * 4) (rcells [((x1, x2, x3), Value.pointer p)])).size = l.length * 4 := by rw [spl_size (by rw [rcells_len]; simp; omega), hcs]
          have HSL := Lib.hid hszL; have HSP := Lib.hid hspl
          have hE0 : ∀ m ∈ l.take (k + 1), checkM m = 0 := by
            rw [HTKK.out]; intro m hm
            rcases List.mem_append.1 hm with h | h
            · exact E0.out m h
            · rw [List.mem_singleton.1 h]; exact HCK.out
          have HE0 := Lib.hid hE0
          have hll : (L ++ [((x1, x2, x3), Value.pointer p)]).map (·.1) = l.take (k + 1) := by rw [HTKK.out, List.map_append, hL]; rfl
          have HLL := Lib.hid hll
          have hpas := fun f W hf => passes_any (x1, x2, x3) f noneB W hf
          clear hszL hspl hE0 hll
          have hbs := HBS.out
          generalize hB1 : bareM (l.take (k + 1)) = B1 at hbs
          generalize passM (x1, x2, x3) noneB = P at hbs hpas
          generalize bareM (l.take k) = B0 at hbs ⊢
          unfold aggR noneB at hpas
          simp only at hpas
          have HPAS := Lib.hid hpas
          have HB1' := Lib.hid hB1; have HBSS := Lib.hid hbs
          clear hpas hB1 hbs HBS
          unfold aggR
          simp only
          cases B0 with
          | false =>
            go_wp2_with (first
              | (rw [← HW.out]; refine wpList_store_agg (o := ⟨none, _, _, _, _, _⟩) ?_ 132 (.tmp 34) (.tmp 33) ?_ w.heap.size (k * 4) (rcells [((x1, x2, x3), Value.pointer p)]) ?_ ?_ 132 cur HGW.out ?_ ?_ HCELL.out ?_; rfl; rfl; rfl; rfl; kernel_rfl; (show k * 4 + 4 ≤ cur.size; omega); intro w4 hg4 hm4 hs4
                 have hb4 : RowKit.Below w.heap.size w w4 := HBW.out.trans (hm4.belowB HBW.out.size fun k hk e => by omega)
                 have hx4 := (hm4.block _ (blk_lt HBX.out) hne).trans HBX.out
                 have d0 := cell_blk hx4 0; have d1 := cell_blk hx4 1; have d2 := cell_blk hx4 2; have d3 := cell_blk hx4 3
                 simp only [List.getElem?_toArray, List.getElem?_cons_zero, List.getElem?_cons_succ] at d0 d1 d2 d3
                 have hf4 := FormOk.mvd HFX.out HGW.out hm4
                 have hF4 : ∀ x ∈ L, FormOk w4 x.1 x.2 := fun x hx => (HFW.out x hx).mvd HGW.out hm4
                 have HPA := Lib.hid (HPAS.out (.pointer p) w4 hf4)
                 have HG4 := Lib.hid hg4; have HB4 := Lib.hid hb4; have HF4 := Lib.hid hF4; have HFX4 := Lib.hid hf4
                 clear hm4 hg4 hb4 hf4 hF4 hx4 hs4)
              | fail)
            generalize spl cur (k * 4) (rcells [((x1, x2, x3), Value.pointer p)]) = cur2 at HG4 HSL HSP
            go_roundw
            case rel => exact ⟨k + 1, L ++ [((x1, x2, x3), Value.pointer p)], cur2, by go_num, by omega, by rw [HB1'.out, HBSS.out]; rfl, HLL.out, HSP.out, (show Aside _ from HG4.out), (show Aside _ from HSL.out), (show Aside _ from fun x hx => by
              rcases List.mem_append.1 hx with h | h
              · exact HF4.out x h
              · rw [List.mem_singleton.1 h]; exact HFX4.out), (show Aside _ from HB4.out), (show Aside _ from HE0.out)⟩
            case measure => simp [intOf]; omega
          | true =>
            go_wp2_with (first
              | (rw [← HW.out]; refine wpList_store_agg (o := ⟨none, _, _, _, _, _⟩) ?_ 132 (.tmp 34) (.tmp 33) ?_ w.heap.size (k * 4) (rcells [((x1, x2, x3), Value.pointer p)]) ?_ ?_ 132 cur HGW.out ?_ ?_ HCELL.out ?_; rfl; rfl; rfl; rfl; kernel_rfl; (show k * 4 + 4 ≤ cur.size; omega); intro w4 hg4 hm4 hs4
                 have hb4 : RowKit.Below w.heap.size w w4 := HBW.out.trans (hm4.belowB HBW.out.size fun k hk e => by omega)
                 have hx4 := (hm4.block _ (blk_lt HBX.out) hne).trans HBX.out
                 have d0 := cell_blk hx4 0; have d1 := cell_blk hx4 1; have d2 := cell_blk hx4 2; have d3 := cell_blk hx4 3
                 simp only [List.getElem?_toArray, List.getElem?_cons_zero, List.getElem?_cons_succ] at d0 d1 d2 d3
                 have hf4 := FormOk.mvd HFX.out HGW.out hm4
                 have hF4 : ∀ x ∈ L, FormOk w4 x.1 x.2 := fun x hx => (HFW.out x hx).mvd HGW.out hm4
                 have HPA := Lib.hid (HPAS.out (.pointer p) w4 hf4)
                 have HG4 := Lib.hid hg4; have HB4 := Lib.hid hb4; have HF4 := Lib.hid hF4; have HFX4 := Lib.hid hf4
                 clear hm4 hg4 hb4 hf4 hF4 hx4 hs4)
              | fail)
            generalize spl cur (k * 4) (rcells [((x1, x2, x3), Value.pointer p)]) = cur2 at HG4 HSL HSP
            refine HPA.out.mono ?_
            rintro e w5 ⟨rfl, hb5⟩
            have HG5 := Lib.hid ((hb5.block _ (blk_lt HG4.out)).trans HG4.out)
            have HB5 := Lib.hid (HB4.out.trans (hb5.mono HB4.out.size))
            have HF5 := Lib.hid (fun x hx => (HF4.out x hx).below hb5)
            have HFX5 := Lib.hid (HFX4.out.below hb5)
            clear hb5
            go_wp2_with fail
            go_roundw
            case rel => exact ⟨k + 1, L ++ [((x1, x2, x3), Value.pointer p)], cur2, by go_num, by omega, by rw [HB1'.out, HBSS.out]; simp, HLL.out, HSP.out, (show Aside _ from HG5.out), (show Aside _ from HSL.out), (show Aside _ from fun x hx => by
              rcases List.mem_append.1 hx with h | h
              · exact HF5.out x h
              · rw [List.mem_singleton.1 h]; exact HFX5.out), (show Aside _ from HB5.out), (show Aside _ from HE0.out)⟩
            case measure => simp [intOf]; omega
        · rw [if_neg hc] at ho
          obtain ⟨rfl, hb2⟩ := ho
          have hcc := HHC.out hc
          have hC2 := HC.out
          rw [if_pos (by rw [hcc]; exact hc), hcc] at hC2
          have HB2 := Lib.hid (HBA.out.trans (hb2.mono HBA.out.size)); clear hb2
          generalize checkM (x1, x2, x3) = Q at hc hC2
          subst hC2
          have hc2 : ¬ ((Q : Nat) : Int) = 0 := by omega
          clear hcc HHC HC HR
          unfold aggR noneB
          simp only
          go_wp2
          go_ret2
          unfold NwOut
          rw [if_neg hc]
          exact ⟨rfl, HB2.out.alloc HB2.out.size _⟩
      · obtain rfl : k = l.length := by omega
        have h0 : checksM l = 0 := checksM_zero.2 fun m hm => E0.out m (by rw [List.take_length]; exact hm)
        have hC2 := HC.out
        rw [if_neg (by simp [h0])] at hC2
        rw [List.take_length] at hL ⊢
        cases hb : bareM l with
        | true =>
          rw [hb, if_pos rfl] at hC2
          subst hC2
          have HBW := Lib.hid BW.out; clear BW HC
          go_wp2
          go_ret2
          unfold NwOut
          rw [if_neg (by decide)]
          exact ⟨rfl, HBW.out⟩
        | false =>
          rw [hb, if_neg (by simp)] at hC2
          subst hC2
          have HBW := Lib.hid BW.out; clear BW HC
          go_wp2
          go_ret2
          unfold NwOut
          rw [if_pos rfl]
          have hbb : RowKit.Below wr.heap.size wr (wr.alloc (.cells #[.slice (some ⟨w.heap.size, 0, none⟩) l.length l.length] 136)) := (RowKit.Below.refl _ wr).alloc (Nat.le_refl _) _
          exact ⟨wr.heap.size, rfl, HBW.out.size, ⟨w.heap.size, l.length, L, cur, heap_alloc_new wr _, (hbb.block _ (blk_lt HG.out)).trans HG.out, Nat.le_refl _, by unfold maxLen; omega, HTK.out, hL, fun x hx => (HF.out x hx).below hbb⟩, HBW.out.trans (hbb.mono HBW.out.size)⟩
end
end
section
set_option linter.unusedVariables false
set_option linter.unusedSimpArgs false
open Go.RowKit
theorem rcells_in {cur : Array Value} {L : List (Mt' × Value)} {n k : Nat} (h : cur.toList.take (n * 4) = rcells L) (hn : L.length = n) (hk : k < L.length) :
    cur[k * 4]? = some (.int .i64 L[k].1.1) ∧ cur[k * 4 + 1]? = some (.string L[k].1.2.1) ∧ cur[k * 4 + 2]? = some (.string L[k].1.2.2) ∧ cur[k * 4 + 3]? = some L[k].2 := by
  obtain ⟨h0, h1, h2, h3⟩ := rcells_at L k hk
  have each : ∀ j v, j < n * 4 → (rcells L)[j]? = some v → cur[j]? = some v := fun j v hj hv => by
    rw [← h, List.getElem?_take, if_pos hj] at hv
    simpa using hv
  exact ⟨each _ _ (by omega) h0, each _ _ (by omega) h1, each _ _ (by omega) h2, each _ _ (by omega) h3⟩
section
set_option maxHeartbeats 3200000
set_option maxRecDepth 100000
theorem mright_any (A : Option Addr) (ca : Nat) (l : List Mt') (w : World) (hx : Rd w A (mcells l)) (hT : Tabs w) (hl : l.length ≤ 100000) (hv : ∀ m ∈ l, m.2.2.size ≤ 1000000) :
    Calls Tryz.prog 51 #[.slice A l.length ca] w fun e w' => e = .returned (.int .i64 (rightM l : Nat)) ∧ RowKit.Below w.heap.size w w' := by
  have HN := Lib.hid (mnew_any A ca l w hx hT hl hv)
  clear hx hT hv
  generalize rightM l = C at HN ⊢
  go_enter Tryz.func51, Tryz.ntmps51
  go_wp2_with fail
  refine HN.out.mono ?_
  intro e w1 ho
  unfold NwOut at ho
  by_cases hc : C = 0
  · rw [if_pos hc] at ho
    subst hc
    obtain ⟨b, rfl, -, -, hb⟩ := ho
    have HB := Lib.hid hb; clear hb
    go_wp2
    go_ret
    exact ⟨rfl, HB.out⟩
  · rw [if_neg hc] at ho
    obtain ⟨rfl, hb⟩ := ho
    have HB := Lib.hid hb; clear hb
    go_wp2
    go_ret
    exact ⟨rfl, HB.out⟩
theorem mmatch_any (b : Nat) (l : List Mt') (A : Option Addr) (c : Nat) (x : List Lb) (w : World) (h : SetIs w b l) (h1 : 1 ≤ l.length) (hx : Rd w A (lcells x)) (hl : x.length ≤ 1000000) :
    Calls Tryz.prog 96 #[.pointer (some ⟨b, 0, none⟩), .slice A x.length c] w fun e w' => e = .returned (.bool (passesM l x)) ∧ RowKit.Below w.heap.size w w' := by
  obtain ⟨P, hP⟩ : ∃ P, passesM l x = P := ⟨_, rfl⟩
  rw [hP]
  have hst : passesM (l.drop 0) x = P := hP
  obtain ⟨g, cc, L, cur, hb, hg, hcc, hcm, hcur, hL, hF⟩ := h.box
  have hLl : L.length = l.length := by rw [← hL, List.length_map]
  have c0 := cell_blk hb 0
  simp only [List.getElem?_toArray, List.getElem?_cons_zero, List.getElem?_cons_succ] at c0
  have HB := Lib.hid hb; have HG := Lib.hid hg; have HCUR := Lib.hid hcur; have HL := Lib.hid hL; have HF := Lib.hid hF; have HX := Lib.hid hx; have HST := Lib.hid hst
  clear hb hg hcur hL hF hx hst hP h
  unfold maxLen at hcm
  have n1 : ((l.length : Int) == 0) = false := by rw [beq_eq_false_iff_ne]; omega
  go_enter Tryz.func96, Tryz.ntmps96
  go_wp2_with fail
  go_loopw [22] (fun s22 wr => ∃ k : Nat, s22 = .int .i64 k ∧ k ≤ l.length ∧ Aside (RowKit.Below w.heap.size w wr) ∧ Aside (passesM (l.drop k) x = P)) (fun s22 _ => l.length - (intOf s22).toNat)
  case atStart => exact ⟨0, rfl, by omega, RowKit.Below.refl _ _, HST.out⟩
  case round =>
    obtain ⟨k, rfl, hk, BW, E⟩ := hrel
    have k0 : (0 : Int) ≤ (k : Int) := by omega
    by_cases hlt : k < l.length
    · have k1 : (k : Int) < (l.length : Int) := by omega
      have hltL : k < L.length := by omega
      have hgr := (BW.out.block _ (blk_lt HG.out)).trans HG.out
      obtain ⟨r0, r1, r2, r3⟩ := rcells_in HCUR.out hLl hltL
      have d0 := (cell_blk hgr (k * 4)).trans r0; have d1 := (cell_blk hgr (k * 4 + 1)).trans r1; have d2 := (cell_blk hgr (k * 4 + 2)).trans r2; have d3 := (cell_blk hgr (k * 4 + 3)).trans r3
      have hLk : L[k].1 = l[k] := by have h := HL.out; subst h; simp
      have hfk := HF.out L[k] (List.getElem_mem hltL)
      have hE := E.out
      rw [List.drop_eq_getElem_cons hlt] at hE
      unfold passesM at hE
      rw [List.all_cons, ← hLk] at hE
      clear r0 r1 r2 r3 hgr hLk
      generalize L[k] = y at d0 d1 d2 d3 hfk hE
      obtain ⟨⟨y1, y2, y3⟩, f⟩ := y
      simp only at d0 d1 d2 d3 hfk hE
      obtain ⟨p, rfl⟩ := hfk.ptr
      obtain ⟨W, hW⟩ : ∃ W, W = wr.alloc (.cells #[.int .i64 y1, .string y2, .string y3, .pointer p] 132) := ⟨_, rfl⟩
      have hbW : RowKit.Below wr.heap.size wr W := by rw [hW]; exact (RowKit.Below.refl _ wr).alloc (Nat.le_refl _) _
      have hbx : W.heap[wr.heap.size]? = some (.cells #[.int .i64 y1, .string y2, .string y3, .pointer p] 132 (0, 0)) := by rw [hW]; exact heap_alloc_new wr _
      have hbwW := BW.out.trans (hbW.mono BW.out.size)
      have HS := Lib.hid (fun (W' : World) (hb : RowKit.Below W.heap.size W W') => show W'.cell? ⟨wr.heap.size, 0, none⟩ = some (.int .i64 y1) ∧ W'.cell? ⟨wr.heap.size, 1, none⟩ = some (.string y2) ∧ W'.cell? ⟨wr.heap.size, 2, none⟩ = some (.string y3) ∧ W'.cell? ⟨wr.heap.size, 3, none⟩ = some (.pointer p) from by
        have h := (hb.block _ (blk_lt hbx)).trans hbx
        have e0 := cell_blk h 0; have e1 := cell_blk h 1; have e2 := cell_blk h 2; have e3 := cell_blk h 3
        simp only [List.getElem?_toArray, List.getElem?_cons_zero, List.getElem?_cons_succ] at e0 e1 e2 e3
        exact ⟨e0, e1, e2, e3⟩)
      have HGT := Lib.hid (fun (W' : World) (hb : RowKit.Below W.heap.size W W') => get_any A c x y2 W' ((HX.out.below hbwW).below hb) hl)
      have hps := fun (W' : World) (hb : RowKit.Below W.heap.size W W') => passes_any (y1, y2, y3) (.pointer p) (getP x y2) W' ((hfk.below hbwW).below hb)
      generalize getP x y2 = v at HGT hps hE
      generalize passM (y1, y2, y3) v = Q at hps hE
      unfold aggR at hps
      simp only at hps
      have HPS := Lib.hid hps; have HW := Lib.hid hW; have HE := Lib.hid hE; have HWW := Lib.hid hbwW
      have HBc := Lib.hid (RowKit.Below.refl W.heap.size W)
      clear hps hW hE hbW hbwW hbx hfk E
      cases Q with
      | false =>
        go_wp2_with fail
        rw [← HW.out]
        go_region_held3 (fun W' => W'.cell? ⟨wr.heap.size, 0, none⟩ = some (.int .i64 y1) ∧ W'.cell? ⟨wr.heap.size, 1, none⟩ = some (.string y2) ∧ W'.cell? ⟨wr.heap.size, 2, none⟩ = some (.string y3) ∧ W'.cell? ⟨wr.heap.size, 3, none⟩ = some (.pointer p)) (first | exact HS.out _ HBc.out | exact HS.out _ (below_drewN HBc.out _)) (first
          | (go_at_call 112; go_must (refine (HGT.out _ (by first | exact HBc.out | exact below_drewN HBc.out _)).mono ?_; rintro e wq ⟨rfl, hbq⟩; (try (have hq1 := undrewM hbq; clear hbq; have hbq := hq1; clear hq1)); have hq1 := HBc.out.trans (hbq.mono HBc.out.size); have HBc := Lib.hid hq1; clear hq1 hbq))
          | (go_at_call 95; go_must (refine (HPS.out _ (by first | exact HBc.out | exact below_drewN HBc.out _)).mono ?_; rintro e wq ⟨rfl, hbq⟩; (try (have hq1 := undrewM hbq; clear hbq; have hbq := hq1; clear hq1)); have hq1 := HBc.out.trans (hbq.mono HBc.out.size); have HBc := Lib.hid hq1; clear hq1 hbq))
          | fail)
        all_goals
          have hP : P = false := by rw [← HE.out]; rfl
          subst hP
          go_wp2
          go_ret
          exact ⟨rfl, by first | exact HWW.out.trans (HBc.out.mono HWW.out.size) | exact below_drewN (HWW.out.trans (HBc.out.mono HWW.out.size)) _⟩
      | true =>
        go_wp2_with fail
        rw [← HW.out]
        go_region_held3 (fun W' => W'.cell? ⟨wr.heap.size, 0, none⟩ = some (.int .i64 y1) ∧ W'.cell? ⟨wr.heap.size, 1, none⟩ = some (.string y2) ∧ W'.cell? ⟨wr.heap.size, 2, none⟩ = some (.string y3) ∧ W'.cell? ⟨wr.heap.size, 3, none⟩ = some (.pointer p)) (first | exact HS.out _ HBc.out | exact HS.out _ (below_drewN HBc.out _)) (first
          | (go_at_call 112; go_must (refine (HGT.out _ (by first | exact HBc.out | exact below_drewN HBc.out _)).mono ?_; rintro e wq ⟨rfl, hbq⟩; (try (have hq1 := undrewM hbq; clear hbq; have hbq := hq1; clear hq1)); have hq1 := HBc.out.trans (hbq.mono HBc.out.size); have HBc := Lib.hid hq1; clear hq1 hbq))
          | (go_at_call 95; go_must (refine (HPS.out _ (by first | exact HBc.out | exact below_drewN HBc.out _)).mono ?_; rintro e wq ⟨rfl, hbq⟩; (try (have hq1 := undrewM hbq; clear hbq; have hbq := hq1; clear hq1)); have hq1 := HBc.out.trans (hbq.mono HBc.out.size); have HBc := Lib.hid hq1; clear hq1 hbq))
          | fail)
        all_goals
          have HE2 := Lib.hid (show passesM (l.drop (k + 1)) x = P by rw [← HE.out]; unfold passesM; simp)
          go_wp2_with fail
          go_roundw
          case rel => exact ⟨k + 1, by go_num, by omega, (by first | exact HWW.out.trans (HBc.out.mono HWW.out.size) | exact below_drewN (HWW.out.trans (HBc.out.mono HWW.out.size)) _), (show Aside _ from HE2.out)⟩
          case measure => simp [intOf]; omega
    · obtain rfl : k = l.length := by omega
      have hP : P = true := by rw [← E.out, List.drop_length]; rfl
      subst hP
      go_wp2
      go_ret
      exact ⟨rfl, BW.out⟩
end
end
end
end Go.Proofs.YtjgappbomohlcaaGreatDoor
