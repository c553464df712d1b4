/-
  An index: a label less of a series.
  The law's live.
-/
import Derived.Test.YtjgappbomohlcaaGreatDoorKUri
import Derived.Test.YtjgappbomohlcaaGreatDoorKPq4
import Derived.Test.YtjgappbomohlcaaGreatDoorKPrb
import Derived.Test.YtjgappbomohlcaaGreatDoorKPq7
namespace Go.Proofs.YtjgappbomohlcaaGreatDoor
section
set_option linter.unusedVariables false
set_option linter.unusedSimpArgs false
open Go.RowKit Go.Sort
theorem put_take {cur : Array Value} {l' zs : List Nat} (h : (l' ++ zs).length ≤ cur.size) : (putCells Un 0 (l' ++ zs).toArray cur).toList.take l'.length = l'.map Un := by
  apply List.ext_getElem?
  intro i
  rw [List.getElem?_take]
  by_cases hi : i < l'.length
  · rw [if_pos hi, Array.getElem?_toList, List.getElem?_map, List.getElem?_eq_getElem hi]
    unfold putCells
    rw [List.length_append] at h
    rw [Array.getElem?_mapIdx, Array.getElem?_eq_getElem (by omega)]
    simp only [Option.map_some, Nat.zero_le, true_and, Nat.zero_add, Nat.sub_zero]
    rw [if_pos (by simp; omega)]
    congr 1
    rw [getElem!_pos _ i (by simp; omega)]
    simp [List.getElem_append_left hi]
  · rw [if_neg hi, List.getElem?_eq_none (by simp; omega)]
theorem own_put {w : World} {B g cap q : Nat} {l l' zs : List Nat} (h : w.ownsRow B 23 1 (.slice (some ⟨g, 0, none⟩) l.length cap) l.length (l.map Un)) (hs : (l' ++ zs).length = l.length) :
    (putRow Un (Sort.ahead w q) g 0 (l' ++ zs).toArray).ownsRow B 23 1 (.slice (some ⟨g, 0, none⟩) l'.length cap) l'.length (l'.map Un) := by
  refine ⟨by simp, ?_⟩
  rcases h.2 with ⟨h1, _⟩ | ⟨g', cap', cur, e, hB, hg, hnc, hcm, hcs, htk⟩
  · cases h1
  · injection e with e1 e2 e3
    injection e1 with e1; injection e1 with e1
    subst e1; subst e3
    have hl : l'.length ≤ l.length := by rw [List.length_append] at hs; omega
    refine .inr ⟨g, cap, putCells Un 0 (l' ++ zs).toArray cur, rfl, hB, ?_, by omega, hcm, by simp [putCells, hcs], ?_⟩
    · show (mapBlock (Sort.ahead w q) g _).heap[g]? = _
      unfold mapBlock
      show (w.heap.modify g _)[g]? = _
      rw [Array.getElem?_modify, if_pos rfl, hg]
      rfl
    · rw [Nat.mul_one]
      exact put_take (by omega)
/-- The third map alone was turned, and its ghost. -/
theorem ix_only {W w1 : World} {xb b0 : Nat} {L : List Ser} {F F1 : Fp} {G : Gh} (hi : IxF W xb L F G) (hb0 : (G.tg b0).isP) (hm : Mv (fun k => k = b0) W w1) {pE1 : List (ByteArray × Value)} {iE1 : ByteArray → List (ByteArray × Value)}
    (hpo : PostE w1 { G with pE := pE1, iE := iE1 } F1) : IxTm W xb G L F1 w1 := by
  have hk : ∀ k, G.tg k ≠ .no → ¬ (G.tg k).isP → w1.heap[k]? = W.heap[k]? := fun k h1 h2 => hm.block k (hi.al k h1) (fun e => h2 (by rw [e]; exact hb0))
  have hb1 : G.tg b0 ≠ .no := fun e => by rw [e] at hb0; exact hb0
  refine ⟨{ G with pE := pE1, iE := iE1 }, ⟨?_, hi.xt, ?_, hi.st, hi.sl, fun s hs => ?_, ?_, hi.rt, hi.rl, hpo, hi.wf, fun k hk' => Nat.lt_of_lt_of_le (hi.al k hk') hm.size⟩, hm.mono fun i _ e => by rw [e]; exact hb1, fun k hk' => .inl hk', rfl, rfl⟩
  · exact (hk _ (by rw [hi.xt]; simp) (by rw [hi.xt]; exact fun h => h)).trans hi.box
  · exact hi.sm.moved (hk _ (by rw [hi.st]; simp) (by rw [hi.st]; exact fun h => h))
  · obtain ⟨l1, l2⟩ := hi.la s hs
    exact ⟨own_moved l1 fun b hb => hk b (by rw [l2 b hb]; simp) (by rw [l2 b hb]; exact fun h => h), l2⟩
  · exact hi.rm.moved (hk _ (by rw [hi.rt]; simp) (by rw [hi.rt]; exact fun h => h))
theorem ix_delVal {W w1 : World} {xb : Nat} {L : List Ser} {F : Fp} {G : Gh} (hi : IxF W xb L F G) {nm vl : ByteArray} {g : ByteArray → Option (List Nat)} (hg : F nm = some g) (hm : MapG KT isSlice w1 (G.mb nm) (delG (G.iE nm) vl)) (ht : W.mapTurned w1 (G.mb nm)) :
    IxTm W xb G L (setF F nm (some (setVP g vl none))) w1 := by
  have hmv := mvTurned ht
  have hpo := hi.po.delVal hi.al hg hm fun k h1 h2 => hmv.block k h1 h2
  exact ix_only hi (by rw [(hi.po.im nm g hg).2.1]; trivial) hmv (pE1 := G.pE) hpo
theorem ix_delName {W w1 : World} {xb : Nat} {L : List Ser} {F : Fp} {G : Gh} (hi : IxF W xb L F G) {nm : ByteArray} (hm : MapG KT isMap w1 G.pb (delG G.pE nm)) (ht : W.mapTurned w1 G.pb) : IxTm W xb G L (setF F nm none) w1 := by
  have hmv := mvTurned ht
  have hpo := hi.po.delName hi.al hm fun k h1 h2 => hmv.block k h1 h2
  exact ix_only hi (by rw [hi.po.pt]; trivial) hmv (iE1 := G.iE) hpo
section
set_option maxHeartbeats 3200000
set_option maxRecDepth 100000
theorem unpost1_any {W : World} {bx : Nat} (n x : Nat) (h : W.cell? ⟨bx, 0, none⟩ = some (.int .u64 (n : Nat))) : Calls Tryz.prog 92 #[.int .u64 (x : Nat), .pointer (some ⟨bx, 0, none⟩)] W fun e w' => e = .returned (.bool (decide (x = n))) ∧ ∃ q, w' = W.drewN q := by
  have hb : ((x : Int) == (n : Int)) = decide (x = n) := by rw [Bool.eq_iff_iff]; simp; omega
  go_enter Tryz.func92, Tryz.ntmps92
  go_wp2_with fail
  go_ret
  exact ⟨by rw [← hb]; rfl, 0, rfl⟩
theorem del_any {w : World} {bx g cap : Nat} {l : List Nat} (n : Nat) (hb : w.heap[bx]? = some (.cells #[.int .u64 (n : Nat)] 23 (0, 0))) (own : w.ownsRow 0 23 1 (.slice (some ⟨g, 0, none⟩) l.length cap) l.length (l.map Un)) (hne : bx ≠ g) :
    Calls Tryz.prog 91 #[.slice (some ⟨g, 0, none⟩) l.length cap, .func (.func 92) #[] #[.pointer (some ⟨bx, 0, none⟩)]] w fun e w' => e = .returned (.slice (some ⟨g, 0, none⟩) (l.filter fun m => !decide (m = n)).length cap) ∧
      w'.ownsRow 0 23 1 (.slice (some ⟨g, 0, none⟩) (l.filter fun m => !decide (m = n)).length cap) (l.filter fun m => !decide (m = n)).length ((l.filter fun m => !decide (m = n)).map Un) ∧ Mv (fun k => k = g) w w' := by
  obtain ⟨tl, hur, -, hlc, hcm⟩ := ur_of own
  have hbl := lt_of_block hb
  have hp : PredAt Tryz.prog 92 #[.pointer (some ⟨bx, 0, none⟩)] Un (fun m => decide (m = n)) w := fun W x hB => by
    have := cell_blk ((hB.block bx hbl).trans hb) 0
    exact unpost1_any n x this
  have hpo : PredOver Tryz.prog 92 #[.pointer (some ⟨bx, 0, none⟩)] Un (fun m => decide (m = n)) g 0 l.toArray.size w := fun q os dk x hs => by
    refine unpost1_any n x ?_
    have h1 : (sortWorld Un w g 0 q dk os).heap[bx]? = w.heap[bx]? := by
      unfold sortWorld
      rw [Sort.heap_grow_old _ _ (by rw [size_putRow]; exact hbl)]
      exact (put_moved (w := w) (g := g) (n := q) (d := dk)).block bx hbl hne
    exact cell_blk (h1.trans hb) 0
  have hd := AnyE.slices_DeleteFunc Tryz.delE Un (fun x => rfl) (fun m => decide (m = n)) 92 #[.pointer (some ⟨bx, 0, none⟩)] (enters_of Tryz.func92 (by kernel_rfl) rfl) 0 (fun W => by kernel_rfl) g 0 cap l.toArray w hp hpo hur.holds (by simp; unfold maxLen at hcm; omega) (by simpa using hlc)
  refine hd.mono ?_
  rintro e w' ⟨rfl, q, rfl⟩
  have hl := List.length_filter_le (fun m => !decide (m = n)) l
  refine ⟨rfl, own_put own (by simp; omega), put_moved⟩
end
end
section
set_option linter.unusedVariables false
set_option linter.unusedSimpArgs false
open Go.RowKit
/-- An index of the call's own, behind a world w. -/
def MineP (w : World) (xb : Nat) (L : List Ser) (wa : World) : Prop := ∃ G, IxE wa xb L G ∧ Below w.heap.size w wa ∧ ∀ k, G.tg k ≠ .no → w.heap.size ≤ k
theorem MineP.below {w wa wb : World} {xb : Nat} {L : List Ser} (h : MineP w xb L wa) (hb : Below wa.heap.size wa wb) : MineP w xb L wb := by
  obtain ⟨G, h1, h2, h3⟩ := h
  exact ⟨G, h1.below hb, h2.trans (hb.mono h2.size), h3⟩
theorem MineP.out {w wa wb : World} {xb : Nat} {L L' : List Ser} {G : Gh} (h2 : Below w.heap.size w wa) (h3 : ∀ k, G.tg k ≠ .no → w.heap.size ≤ k) (h : IxOut wa xb G L' wb) : MineP w xb L' wb := by
  obtain ⟨G', i1, m1, s1⟩ := h
  refine ⟨G', i1, h2.trans (m1.belowB h2.size fun k hk ht => by have := h3 k ht; omega), fun k hk => ?_⟩
  rcases s1 k hk with h | h
  · exact h3 k h
  · exact Nat.le_trans h2.size h
def jobB : ByteArray := ⟨#[106, 111, 98]⟩
def jobL (s : ByteArray) : List Lb := [(jobB, s)]
def lvL : List Ser := [(7, jobL ⟨#[97]⟩), (5, jobL ⟨#[98]⟩)]
def lvM : List Mt' := [(3, jobB, ⟨#[97, 124, 98]⟩)]
theorem lv1 : addC [] 7 (jobL ⟨#[97]⟩) = 0 := by decide +kernel
theorem lv2 : addC [(7, jobL ⟨#[97]⟩)] 5 (jobL ⟨#[98]⟩) = 0 := by decide +kernel
theorem lv3 : addC lvL 7 (jobL ⟨#[99]⟩) = 100 := by decide +kernel
theorem lv4 : rightM lvM = 0 := by decide +kernel
theorem lv5 : selL lvL lvM = [5, 7] := by decide +kernel
theorem lv6 : orN [2, 1] [2] = [1, 2] := by decide +kernel
section
set_option maxHeartbeats 3200000
set_option maxRecDepth 100000
theorem job_any (s : ByteArray) (w : World) : Calls Tryz.prog 43 #[.string s] w fun e w' => e = .returned (.slice (some ⟨w.heap.size, 0, none⟩) 1 1) ∧ w' = w.alloc (.cells #[.string jobB, .string s] 80) := by
  unfold jobB
  go_enter Tryz.func43, Tryz.ntmps43
  go_wp2_with fail
  go_ret
  exact ⟨rfl, rfl⟩
/-- Add of a job's labels, of an index of the call's own. -/
theorem add_job {w wa : World} {xb : Nat} {L : List Ser} (h : MineP w xb L wa) (hT0 : Tabs w) (s : ByteArray) (hs : s.size ≤ 1) (n : Nat) (hn : n < 18446744073709551616) :
    Calls Tryz.prog 38 #[.pointer (some ⟨xb, 0, none⟩), .int .u64 (n : Nat), .slice (some ⟨wa.heap.size, 0, none⟩) 1 1] (wa.alloc (.cells #[.string jobB, .string s] 80)) fun e w' => e = .returned (.int .i64 (addC L n (jobL s) : Nat)) ∧ MineP w xb (addL L n (jobL s)) w' := by
  obtain ⟨G, h1, h2, h3⟩ := h
  have hT := hT0.below h2
  have hb : Below wa.heap.size wa (wa.alloc (.cells #[.string jobB, .string s] 80)) := (Below.refl _ wa).alloc (Nat.le_refl _) _
  have ha := iadd_any (h1.below hb) (hT.below hb) hn (some ⟨wa.heap.size, 0, none⟩) 1 (jobL s) (rd_row wa (lcells (jobL s)) 80) (fun b hb => by
    injection hb with hb
    subst hb
    exact Classical.byContradiction fun e => Nat.lt_irrefl _ (h1.al _ e)) ⟨by show 1 ≤ 6000; decide, fun x hx => by
      obtain rfl : x = (jobB, s) := by simpa [jobL] using hx
      exact ⟨by show jobB.size ≤ 6000; decide, by show s.size ≤ 6000; omega⟩⟩
  refine ha.mono ?_
  rintro e w' ⟨rfl, ho⟩
  exact ⟨rfl, MineP.out (L := L) (h2.trans (hb.mono h2.size)) h3 ho⟩
theorem live_any10 (w : World) (hT : Tabs w) : Calls Tryz.prog 11 #[] w fun e w' => e = .returned (.bool true) ∧ Below w.heap.size w w' := by
  have HT := Lib.hid hT
  clear hT
  go_enter Tryz.func11, Tryz.ntmps11
  go_wp2_with fail
  refine (inew_any w).mono ?_
  rintro e w1 ⟨xb, G, rfl, hi1, hb1, hg1⟩
  have M1 : MineP w xb [] w1 := ⟨G, hi1, hb1, hg1⟩
  have H1 := Lib.hid M1; clear M1 hi1 hb1 hg1
  go_wp2_with fail
  refine (job_any _ _).mono ?_
  rintro e w1' ⟨rfl, rfl⟩
  have a1 := add_job H1.out HT.out ⟨#[97]⟩ (by decide) 7 (by decide)
  rw [lv1, show addL [] 7 (jobL ⟨#[97]⟩) = [(7, jobL ⟨#[97]⟩)] from by unfold addL; rw [if_pos lv1]; rfl] at a1
  have A1 := Lib.hid a1; clear a1
  go_wp2_with fail
  refine A1.out.mono ?_
  rintro e w2 ⟨rfl, hm⟩
  have H2 := Lib.hid hm; clear hm
  go_wp2_with fail
  refine (job_any _ _).mono ?_
  rintro e w2' ⟨rfl, rfl⟩
  have a2 := add_job H2.out HT.out ⟨#[98]⟩ (by decide) 5 (by decide)
  rw [lv2, show addL [(7, jobL ⟨#[97]⟩)] 5 (jobL ⟨#[98]⟩) = lvL from by unfold addL; rw [if_pos lv2]; rfl] at a2
  have A2 := Lib.hid a2; clear a2
  go_wp2_with fail
  refine A2.out.mono ?_
  rintro e w3 ⟨rfl, hm⟩
  have H3 := Lib.hid hm; clear hm
  go_wp2_with fail
  refine (job_any _ _).mono ?_
  rintro e w3' ⟨rfl, rfl⟩
  have a3 := add_job H3.out HT.out ⟨#[99]⟩ (by decide) 7 (by decide)
  rw [lv3, show addL lvL 7 (jobL ⟨#[99]⟩) = lvL from by unfold addL; rw [if_neg (by rw [lv3]; decide)]] at a3
  have A3 := Lib.hid a3; clear a3
  go_wp2_with fail
  refine A3.out.mono ?_
  rintro e w4 ⟨rfl, hm⟩
  have H4 := Lib.hid hm; clear hm
  go_wp2_with fail
  obtain ⟨G4, i4, b4, g4⟩ := H4.out
  have hba : Below w4.heap.size w4 (w4.alloc (.cells #[.int .i64 3, .string jobB, .string ⟨#[97, 124, 98]⟩] 66)) := (Below.refl _ w4).alloc (Nat.le_refl _) _
  have hs := iselect_any (i4.below hba) (HT.out.below (b4.trans (hba.mono b4.size))) (some ⟨w4.heap.size, 0, none⟩) 1 lvM (rd_row w4 (mcells lvM) 66) (by decide) (fun m hm => by
    obtain rfl : m = (3, jobB, ⟨#[97, 124, 98]⟩) := by simpa [lvM] using hm
    exact ⟨by show jobB.size ≤ 1000000; decide, by decide⟩)
  unfold SltO at hs
  rw [show selR lvL lvM = [5, 7] from by unfold selR; rw [if_pos lv4]; exact lv5, lv4] at hs
  have HS := Lib.hid hs
  have HBA := Lib.hid hba; have I4 := Lib.hid i4; have B4 := Lib.hid b4
  clear hs hba i4 b4 g4
  refine HS.out.mono ?_
  rintro e w5 ⟨A5, c5, rfl, ho5, hb5⟩
  have hb45 : Below w4.heap.size w4 w5 := HBA.out.trans (hb5.mono HBA.out.size)
  obtain ⟨A5', c5', e5, hr5, -⟩ := own_rdU ho5
  injection e5 with e5 _ e6
  subst e5 e6
  have hrd := hr5.below ((Below.refl _ w5).alloc (Nat.le_refl _) (.cells #[Un 5, Un 7] 23))
  have hn := nums_any A5 (some ⟨w5.heap.size, 0, none⟩) c5 2 [5, 7] [5, 7] (w5.alloc (.cells #[Un 5, Un 7] 23)) hrd (rd_row w5 ([5, 7].map Un) 23) (by decide) (by decide)
  have HN := Lib.hid hn; have HB45 := Lib.hid hb45
  clear hn hb45 hr5 ho5 hb5 hrd
  go_wp2_with fail
  refine HN.out.mono ?_
  rintro e w6 ⟨rfl, q6, rfl⟩
  have hb6 : Below w4.heap.size w4 ((w5.alloc (.cells #[Un 5, Un 7] 23)).drewN q6) := by
    have := HB45.out.alloc HB45.out.size (.cells #[Un 5, Un 7] 23)
    exact ⟨this.os, this.tape, this.output, this.size, this.block⟩
  have HB6 := Lib.hid hb6; clear hb6
  have hlen := ilen_any (I4.out.below HB6.out)
  have HL := Lib.hid hlen; clear hlen
  go_wp2_with fail
  refine HL.out.mono ?_
  rintro e w7 ⟨rfl, rfl⟩
  go_wp2_with fail
  have hvs : ((w5.alloc (.cells #[Un 5, Un 7] 23)).drewN q6).heap.size = w5.heap.size + 1 := World.size_alloc _ _
  have hbV : Below w.heap.size w ((w5.alloc (.cells #[Un 5, Un 7] 23)).drewN q6) := B4.out.trans (HB6.out.mono B4.out.size)
  generalize (w5.alloc (.cells #[Un 5, Un 7] 23)).drewN q6 = V at hvs hbV ⊢
  rw [← hvs]
  have hba : Below V.heap.size V ((V.alloc (.cells #[Un 2, Un 1] 23)).alloc (.cells #[Un 2] 23)) := ((Below.refl _ V).alloc (Nat.le_refl _) _).alloc (by rw [World.size_alloc]; omega) _
  have hx := (rd_row V ([2, 1].map Un) 23).below ((Below.refl _ (V.alloc (.cells #[Un 2, Un 1] 23))).alloc (Nat.le_refl _) (.cells #[Un 2] 23))
  have hy := rd_row (V.alloc (.cells #[Un 2, Un 1] 23)) ([2].map Un) 23
  rw [World.size_alloc] at hy
  have ho := nor_any (some ⟨V.heap.size, 0, none⟩) (some ⟨V.heap.size + 1, 0, none⟩) 2 1 [2, 1] [2] ((V.alloc (.cells #[Un 2, Un 1] 23)).alloc (.cells #[Un 2] 23)) hx hy (by decide) (by decide)
  rw [lv6] at ho
  have HO := Lib.hid ho; have HBV := Lib.hid (hbV.trans (hba.mono hbV.size))
  clear ho hx hy hba hbV hvs
  refine HO.out.mono ?_
  rintro e w8 ⟨v8, rfl, ho8, hb8⟩
  obtain ⟨A8, c8, rfl, -⟩ := own_rdU ho8
  have HB8 := Lib.hid hb8
  clear hb8 ho8
  go_wp2_with fail
  go_ret
  exact ⟨rfl, HBV.out.trans (HB8.out.mono HBV.out.size)⟩
end
end
end Go.Proofs.YtjgappbomohlcaaGreatDoor
