/-
  Parts written one behind the other, and their sum.
-/
import Derived.Test.YtmgjlldccmgpcaaDoorHs
namespace Go.Proofs.YtmgjlldccmgpcaaDoor
set_option linter.unusedVariables false
set_option linter.unusedSimpArgs false
open Go.RowKit

/-- Parts that can be read: where they stand, and each of them. -/
structure PartsRd (w : World) (S : Option Addr) (P : List (Option Addr × Nat × List UInt8)) : Prop where
  row : Rd w S (P.map partV)
  part : ∀ p ∈ P, Rd w p.1 (p.2.2.map Bv) ∧ p.2.2.length ≤ p.2.1 ∧ p.2.1 ≤ 9223372036854775807
theorem PartsRd.below {w w' : World} {S : Option Addr} {P : List (Option Addr × Nat × List UInt8)} (h : PartsRd w S P) (hb : Below w.heap.size w w') : PartsRd w' S P :=
  ⟨h.row.below hb, fun p hp => ⟨(h.part p hp).1.below hb, (h.part p hp).2⟩⟩
/-- No part, nor the row of parts, lies in block b. -/
structure PartsOff (b : Nat) (S : Option Addr) (P : List (Option Addr × Nat × List UInt8)) : Prop where
  row : 0 < P.length → ∀ k, S.map (·.block) = some k → k ≠ b
  part : ∀ p ∈ P, 0 < p.2.2.length → ∀ k, p.1.map (·.block) = some k → k ≠ b
theorem PartsRd.mv {w w' : World} {S : Option Addr} {P : List (Option Addr × Nat × List UInt8)} {b : Nat} (h : PartsRd w S P) (ho : PartsOff b S P) (hm : Mv (fun k => k = b) w w') : PartsRd w' S P :=
  ⟨Mv.rd1 hm h.row (fun h0 k e => ho.row (by simpa using h0) k e), fun p hp => ⟨Mv.rd1 hm (h.part p hp).1 (fun h0 k e => ho.part p hp (by simpa using h0) k e), (h.part p hp).2⟩⟩
/-- A row that can be read lies below the heap's end, where it has anything. -/
theorem Rd.lt {w : World} {A : Option Addr} {xs : List Value} (h : Rd w A xs) (h0 : 0 < xs.length) : ∀ k, A.map (·.block) = some k → k < w.heap.size := by
  intro k hk
  obtain ⟨b, off, rfl, hc⟩ := h 0 xs[0] (by simp)
  have : b = k := by simpa using hk
  subst this
  exact World.block_lt_of_cell? w _ hc
theorem PartsRd.off {w : World} {S : Option Addr} {P : List (Option Addr × Nat × List UInt8)} {b : Nat} (h : PartsRd w S P) (hb : w.heap.size ≤ b) : PartsOff b S P :=
  ⟨fun h0 k e => by have := h.row.lt (by simpa using h0) k e; omega, fun p hp h0 k e => by have := (h.part p hp).1.lt (by simpa using h0) k e; omega⟩
theorem joined_succ {P : List (Option Addr × Nat × List UInt8)} {k : Nat} (h : k < P.length) : joined (P.take (k + 1)) = joined (P.take k) ++ P[k].2.2 := by
  unfold joined; rw [List.take_succ_eq_append_getElem h, List.flatMap_append, List.flatMap_singleton]
theorem joined_le {P : List (Option Addr × Nat × List UInt8)} (k : Nat) : (joined (P.take k)).length ≤ (joined P).length := by
  have : joined P = joined (P.take k) ++ joined (P.drop k) := by simp only [joined, ← List.flatMap_append, List.take_append_drop]
  rw [this, List.length_append]; omega

section
set_option maxHeartbeats 1600000
set_option maxRecDepth 100000
theorem write_any (w : World) (p : Nat) (xs : List UInt8) (S : Option Addr) (cS n : Nat) (P : List (Option Addr × Nat × List UInt8)) (h : HashIs w p xs) (ht : AddsMet w) (hn : P.length = n) (hP : PartsRd w S P) (ho : PartsOff p S P)
    (hl : xs.length + (joined P).length ≤ 140737488350000) (hm : n ≤ 9223372036854775807) :
    Calls Tryd.prog 20 #[.pointer (some ⟨p, 0, none⟩), .slice S n cS] w fun e w' => e = .returned (.int .i64 0) ∧ HashIs w' p (xs ++ joined P) ∧ Mv (fun k => k = p) w w' := by
  have c0 : w.cell? ⟨p, 0, none⟩ = some (.bool true) := by
    obtain ⟨R, hr, _⟩ := h
    rw [hr.cell, hashC_made]
  have hne : p ≠ 0 := by obtain ⟨R, hr, _⟩ := h; exact hr.ne_table ht
  have HN := Lib.hid hn; clear hn
  have HT := Lib.hid ht; clear ht
  go_enter Tryd.func20, Tryd.ntmps20
  go_wp2
  go_loopw [18] (fun i wr => ∃ k : Nat, k ≤ n ∧ i = .int .i64 k ∧ HashIs wr p (xs ++ joined (P.take k)) ∧ Mv (fun k => k = p) w wr) (fun i _ => n - (intOf i).toNat)
  case atStart => exact ⟨0, by omega, rfl, by simpa [joined] using h, Mv.refl _ _⟩
  case round =>
    clear h c0
    obtain ⟨k, hk, rfl, hi, hmv⟩ := hrel
    have ht' := AddsMet.moved HT.out hmv hne
    have hP' := hP.mv ho hmv
    have HT' := Lib.hid ht'; clear ht'
    by_cases hlt : k < n
    · have hkP : k < P.length := by rw [HN.out]; exact hlt
      obtain ⟨g, off, hSe, hc⟩ := hP'.row k (partV P[k]) (by simp [hkP])
      subst hSe
      obtain ⟨hrd, hlc, hcm⟩ := hP'.part P[k] (List.getElem_mem hkP)
      have hoff := ho.part P[k] (List.getElem_mem hkP)
      have hjs := joined_succ hkP
      have hjl := joined_le (P := P) (k + 1)
      rw [hjs, List.length_append] at hjl
      have HJS := Lib.hid hjs; clear hjs
      generalize P[k] = pk at *
      obtain ⟨A, c, ys⟩ := pk
      simp only [partV] at hc hrd hlc hcm hoff HJS hjl
      have hyl : (xs ++ joined (P.take k)).length + ys.length ≤ 140737488355328 := by rw [List.length_append]; omega
      obtain ⟨m, hym⟩ : ∃ m, m = ys.length := ⟨_, rfl⟩
      rw [← hym] at hc hlc hyl
      have HYM := Lib.hid hym; clear hym hjl
      go_wp2_with fail
      refine (add_any wr p (xs ++ joined (P.take k)) ys A c m hi HT'.out HYM.out.symm hrd (fun h0 => hoff (by rw [← HYM.out]; exact h0)) hlc hcm hyl).mono ?_
      rintro e w1 ⟨rfl, hi1, hm1⟩
      have HI1 := Lib.hid hi1; clear hi1
      go_wp2
      go_roundw
      case rel => exact ⟨k + 1, by omega, by go_num, by rw [HJS.out, ← List.append_assoc]; exact HI1.out, hmv.trans hm1 (fun _ _ h => h)⟩
      case measure => simp [intOf]; omega
    · have hkl : P.take k = P := List.take_of_length_le (by have := HN.out; omega)
      rw [hkl] at hi
      clear hkl
      go_wp2
      go_ret
      exact ⟨rfl, hi, hmv⟩
theorem hashSum_any (w : World) (S : Option Addr) (cS n : Nat) (P : List (Option Addr × Nat × List UInt8)) (ht : AddsMet w) (hn : P.length = n) (hP : PartsRd w S P)
    (hl : (joined P).length ≤ 140737488350000) (hm : n ≤ 9223372036854775807) :
    Calls Tryd.prog 14 #[.slice S n cS] w fun e w' => e = .returned (sumV (sha (joined P))) ∧ Below w.heap.size w w' := by
  have HN := Lib.hid hn; clear hn
  have hP0 := hP.below ((Below.refl _ w).alloc (Nat.le_refl _) (.cells (Array.replicate 32 (.int .u8 0)) 25))
  have ht0 := ht.below ((Below.refl _ w).alloc (Nat.le_refl _) (.cells (Array.replicate 32 (.int .u8 0)) 25))
  have hres := heap_alloc_new w (.cells (Array.replicate 32 (.int .u8 0)) 25)
  have hz0 : (w.alloc (.cells (Array.replicate 32 (.int .u8 0)) 25)).heap.size = w.heap.size + 1 := by simp
  have hb0 := (Below.refl _ w).alloc (Nat.le_refl _) (.cells (Array.replicate 32 (.int .u8 0)) 25)
  go_enter Tryd.func14, Tryd.ntmps14
  go_wp2_with fail
  change Calls _ _ _ (w.alloc (.cells (Array.replicate 32 (.int .u8 0)) 25)) _
  generalize w.alloc (.cells (Array.replicate 32 (.int .u8 0)) 25) = w0 at *
  have HRES := Lib.hid hres; clear hres
  have HZ0 := Lib.hid hz0; clear hz0
  have HT0 := Lib.hid ht0; clear ht0 ht
  refine (new_any w0).mono ?_
  rintro e w1 ⟨rfl, hi1, hb1⟩
  rw [HZ0.out] at hi1 ⊢
  have HI1 := Lib.hid hi1; clear hi1
  have hP1 := hP0.below hb1
  have ht1 := HT0.out.below hb1
  have hoff := hP0.off (b := w.heap.size + 1) (by rw [HZ0.out]; exact Nat.le_refl _)
  have hres1 := (hb1.block w.heap.size (by rw [HZ0.out]; omega)).trans HRES.out
  have hb1' := hb0.trans (hb1.mono (by rw [HZ0.out]; omega))
  have hz1 : w.heap.size + 2 ≤ w1.heap.size := by have := HI1.out.lt; omega
  have HRES1 := Lib.hid hres1; clear hres1
  have HT1 := Lib.hid ht1; clear ht1
  clear hb1 hb0 hP0 hP
  go_wp2_with fail
  refine (write_any w1 (w.heap.size + 1) [] S cS n P HI1.out HT1.out HN.out hP1 hoff (by simpa using hl) hm).mono ?_
  rintro e w2 ⟨rfl, hi2, hm2⟩
  rw [List.nil_append] at hi2
  have hne : w.heap.size + 1 ≠ 0 := by obtain ⟨R, hr, _⟩ := HI1.out; exact hr.ne_table HT1.out
  have ht2 := AddsMet.moved HT1.out hm2 hne
  have hb2 : Below w.heap.size w w2 := hb1'.trans (hm2.belowB (by omega) (fun k hk e => by omega))
  have hres2 := (hm2.block w.heap.size (by omega) (by omega)).trans HRES1.out
  have HI2 := Lib.hid hi2; clear hi2
  have HT2 := Lib.hid ht2; clear ht2
  have HR2 := Lib.hid hres2; clear hres2
  clear hne hm2 hP1 hoff hb1'
  go_wp2_with fail
  refine (hsum_any w2 (w.heap.size + 1) (joined P) HI2.out HT2.out hl).mono ?_
  rintro e wa ⟨rfl, hba⟩
  have hz2 : w.heap.size + 1 < w2.heap.size := HI2.out.lt
  have hresa := (hba.block w.heap.size (by omega)).trans HR2.out
  have hbb := hb2.trans (hba.mono (by omega))
  have HRA := Lib.hid hresa; clear hresa
  obtain ⟨cm, hcm⟩ : ∃ cm, cm = (sha (joined P)).map Bv := ⟨_, rfl⟩
  have hcn : cm.length = 32 := by rw [hcm, List.length_map, sha_length]
  have hone : ∀ v ∈ cm, v.oneCell' = true := by rw [hcm]; intro v hv; obtain ⟨x, _, rfl⟩ := List.mem_map.1 hv; rfl
  unfold sumV
  rw [← hcm]
  have HCN := Lib.hid hcn; clear hcn
  have HON2 := Lib.hid hone; clear hone
  have HCM := Lib.hid hcm; clear hcm
  go_wp2_with (first
    | (refine wpList_store_agg (o := ⟨none, _, _, _, _, _⟩) ?_ 25 (.tmp 2) (.tmp 9) ?_ w.heap.size 0 cm ?_ ?_ 25 (Array.replicate 32 (.int .u8 0)) HRA.out ?_ ?_ HON2.out ?_; rfl; rfl; rfl; rfl; (rw [HCN.out]; kernel_rfl); (rw [HCN.out]; decide); intro wb hgb hmb hsb)
    | fail)
  have hg9 : wb.heap[w.heap.size]? = some (.cells cm.toArray 25 (0, 0)) := by
    rw [hgb]
    congr 2
    simp [spl, splice, HCN.out]
  have HG9 := Lib.hid hg9; clear hg9 hgb hsb
  exact bodyPost_cell rfl w.heap.size 25 cm.toArray rfl HG9.out (by kernel_rfl) (by rw [List.size_toArray, HCN.out]; kernel_rfl) rfl ⟨by rw [HCM.out]; rfl, hbb.trans (hmb.belowB (by have := hbb.size; omega) (fun k hk e => by omega))⟩
end
end Go.Proofs.YtmgjlldccmgpcaaDoor
