/-
  The labels that bytes begin with: the program's Take.
-/
import Derived.OwnWalk
import Derived.Test.YtgogpngobdafaaaDoorTk
import Derived.Test.YtgogpngobdafaaaDoorGen
import Derived.Test.YtgogpngobdafaaaDoorRg
import Derived.Test.YtgogpngobdafaaaDoorLg
namespace Go.Proofs.YtgogpngobdafaaaDoor
set_option linter.unusedVariables false
set_option linter.unusedSimpArgs false
open Go.RowKit
/-- What comes of the labels that are there and of so many more. -/
def takeGo (acc : List Lb) (m at_ : Nat) (b : Bs) : List Lb × Nat × Nat :=
  if (labsAt m b).2.2 ≠ 0 then ([], 0, (labsAt m b).2.2)
  else if rightP (acc ++ (labsAt m b).1) ≠ 0 then ([], 0, rightP (acc ++ (labsAt m b).1))
  else (acc ++ (labsAt m b).1, at_ + (labsAt m b).2.1, 0)
theorem takeGo_zero (acc : List Lb) (at_ : Nat) (b : Bs) : takeGo acc 0 at_ b = if rightP acc ≠ 0 then ([], 0, rightP acc) else (acc, at_, 0) := by
  unfold takeGo labsAt
  simp
theorem takeGo_step (acc : List Lb) (m at_ : Nat) (b : Bs) : takeGo acc (m + 1) at_ b = if (labelAt b).2.2 ≠ 0 then ([], 0, (labelAt b).2.2) else takeGo (acc ++ [(labelAt b).1]) m (at_ + (labelAt b).2.1) (b.drop (labelAt b).2.1) := by
  unfold takeGo
  rw [labsAt]
  by_cases h1 : (labelAt b).2.2 ≠ 0
  · rw [if_pos h1, if_pos h1]; simp only; rw [if_pos h1]
  · rw [if_neg h1, if_neg h1]
    by_cases h2 : (labsAt m (b.drop (labelAt b).2.1)).2.2 ≠ 0
    · rw [if_pos h2, if_pos h2]; simp only; rw [if_pos h2]
    · rw [if_neg h2, if_neg h2]; simp only
      rw [if_neg (by simp), List.append_assoc, List.singleton_append, Nat.add_assoc]
theorem takeP_go {b : Bs} (h1 : (uvS 0 0 b).2.2 = 0) (h2 : ¬ 16 < (uvS 0 0 b).1) : takeP b = takeGo [] (uvS 0 0 b).1 (uvS 0 0 b).2.1 (b.drop (uvS 0 0 b).2.1) := by
  unfold takeP takeGo
  rw [if_neg (by omega), if_neg h2]
  simp only [List.nil_append]
theorem lcells_snoc (l : List Lb) (x : Lb) : lcells (l ++ [x]) = lcells l ++ [.string x.1, .string x.2] := by rw [lcells_append]; rfl
theorem zeros_cells (n : Nat) : (madeCells (Value.agg #[.string ⟨#[]⟩, .string ⟨#[]⟩]).cells (n * 2)).toList = List.replicate (n * 2) (.string ⟨#[]⟩) := by
  apply List.ext_getElem?
  intro i
  simp only [madeCells, Value.cells]
  by_cases h : i < n * 2
  · have : i % 2 = 0 ∨ i % 2 = 1 := by omega
    rcases this with e | e <;> simp [h, e]
  · simp [h]
theorem spl_lab (acc : List Lb) (x : Lb) (m k : Nat) (hk : acc.length = k) : spl (lcells acc ++ List.replicate ((m + 1) * 2) (Value.string ⟨#[]⟩)).toArray (k * 2) [.string x.1, .string x.2] = (lcells (acc ++ [x]) ++ List.replicate (m * 2) (Value.string ⟨#[]⟩)).toArray := by
  subst hk
  unfold spl splice
  congr 1
  rw [lcells_snoc, List.toList_toArray, ← lcells_len acc, List.take_left, List.drop_append, List.drop_of_length_le (by simp)]
  simp only [List.length_cons, List.length_nil, List.nil_append, List.append_assoc]
  rw [Nat.add_sub_cancel_left, List.drop_replicate, show (m + 1) * 2 - (0 + 1 + 1) = m * 2 by omega]
theorem made_full {w : World} {B g n : Nat} {xs : List Value} (h : w.ownsRow B 68 2 (.slice (some ⟨g, 0, none⟩) n n) n xs) (hx : xs.length = n * 2) : w.heap[g]? = some (.cells xs.toArray 68 (0, 0)) := by
  rcases h.2 with ⟨h1, _⟩ | ⟨g', cap', cur, e, hB, hg, hnc, hcm, hcs, htk⟩
  · cases h1
  · injection e with e1 e2 e3
    injection e1 with e1
    injection e1 with e1
    subst e1; subst e3
    have : cur.toList = xs := by rw [← htk, List.take_of_length_le (by rw [Array.length_toList, hcs]; exact Nat.le_refl _)]
    rw [hg, ← this]
/-- What is handed back: labels, how many bytes they took, what was wrong. -/
def LabsRes (w : World) (r : List Lb × Nat × Nat) (e : Ending) (w' : World) : Prop := ∃ A' c', e = .returned (.tuple #[.slice A' r.1.length c', .int .i64 (r.2.1 : Nat), .int .i64 (r.2.2 : Nat)]) ∧ Rd w' A' (lcells r.1) ∧ Below w.heap.size w w'
section
set_option maxHeartbeats 1600000
set_option maxRecDepth 100000
theorem take_any (A : Option Addr) (c len : Nat) (xs : Bs) (w : World) (hT : Tabs w) (hle : xs.length = len) (hx : Rd w A (xs.map Bv)) (hc : len ≤ c) (hl : len ≤ 1000000) :
    Calls Tryd.prog 85 #[.slice A len c] w (LabsRes w (takeP xs)) := by
  have hu := uvarint_len A c len xs w hle hx (by omega)
  have hk := uvS_le' xs
  have hn := uvS_lt' xs
  obtain ⟨R, hR⟩ : ∃ R, R = takeP xs := ⟨_, rfl⟩
  rw [← hR]
  have hgo := @takeP_go xs
  obtain ⟨U, hU⟩ : ∃ U, U = uvS 0 0 xs := ⟨_, rfl⟩
  have hR' := hR
  unfold takeP at hR'
  rw [← hU] at hu hk hn hgo hR'
  clear hU
  obtain ⟨n, k0, e⟩ := U
  simp only at hk hn hgo hR'
  have hut : uvT (n, k0, e) = .tuple #[.int .u64 (n : Int), .int .i64 (k0 : Int), .int .i64 (e : Int)] := rfl
  rw [hut] at hu
  have HU := Lib.hid hu; clear hu hut
  have HT := Lib.hid hT; clear hT
  by_cases he : e = 0
  · subst he
    by_cases h16 : 16 < n
    · rw [if_neg (by simp), if_pos h16] at hR'
      subst hR'
      clear hgo hR
      have g1 : (16 : Int) < (n : Int) := by omega
      go_enter Tryd.func85, Tryd.ntmps85
      go_wp2_with fail
      refine HU.out.mono ?_
      rintro e w1 ⟨rfl, rfl⟩
      go_wp2
      go_ret3
      exact ⟨none, 0, rfl, Rd.nil _ _, RowKit.Below.refl _ _⟩
    · have hR2 : R = takeGo [] n k0 (xs.drop k0) := by rw [hR]; exact hgo rfl h16
      clear hR' hgo hR
      have HR := Lib.hid hR2; clear hR2
      have HLE := Lib.hid hle
      have hk' : k0 ≤ len := by omega
      clear hle hk
      have g1 : ¬ (16 : Int) < (n : Int) := by omega
      obtain ⟨i0, hi, hz0, hz1, hz2⟩ := info_parts infoLb
      go_enter Tryd.func85, Tryd.ntmps85
      go_wp2_with fail
      refine HU.out.mono ?_
      rintro e w1 ⟨rfl, rfl⟩
      go_wp2_with (first | (at_make; go_must (refine wpList_make_full _ rfl _ _ 24 rfl w.heap.size 68 i0 (.agg #[.string ⟨#[]⟩, .string ⟨#[]⟩]) 2 Tryd.underlying24 hi hz0 hz1 _ _ _ _ n rfl rfl rfl rfl (by rw [hz2]; omega) (by unfold maxLen; omega) (Nat.le_refl _) ?_; intro w2 hown hgr; rw [zeros_cells] at hown; have hcg := made_full hown (by simp); have hb1 : RowKit.Below w.heap.size w w2 := (RowKit.Below.refl _ w).grown hgr (Nat.le_refl _) (fun k e => by cases e))) | fail)
      have hcg0 : w2.heap[w.heap.size]? = some (.cells (lcells [] ++ List.replicate ((n - 0) * 2) (Value.string ⟨#[]⟩)).toArray 68 (0, 0)) := hcg
      have HCG := Lib.hid hcg0; have HB1 := Lib.hid hb1; clear hcg hcg0 hown hgr hb1 hi hz0 hz1 hz2
      go_wp2
      go_loopw [6, 29] (fun s6 s29 wr => ∃ (k at_ : Nat) (acc : List Lb), s29 = .int .i64 k ∧ s6 = .int .i64 at_ ∧ k ≤ n ∧ at_ ≤ len ∧ acc.length = k ∧ Aside (Small acc) ∧ Aside (wr.heap[w.heap.size]? = some (.cells (lcells acc ++ List.replicate ((n - k) * 2) (Value.string ⟨#[]⟩)).toArray 68 (0, 0))) ∧ Aside (RowKit.Below w.heap.size w wr) ∧ Aside (R = takeGo acc (n - k) at_ (xs.drop at_))) (fun _ s29 _ => n - (intOf s29).toNat)
      case atStart => exact ⟨0, k0, [], rfl, rfl, by omega, hk', rfl, (fun x hx => by cases hx), HCG.out, HB1.out, HR.out⟩
      case round =>
        obtain ⟨k, at_, acc, rfl, rfl, hk, hat, hac, SM, CG, BW, E⟩ := hrel
        have k0' : (0 : Int) ≤ (k : Int) := by omega
        have hgs : w.heap.size < wr.heap.size := blk_lt CG.out
        by_cases hlt : k < n
        · have k1 : (k : Int) < (n : Int) := by omega
          obtain ⟨m, hm⟩ : ∃ m, n - k = m + 1 := ⟨n - k - 1, by omega⟩
          have hm2 : m = n - (k + 1) := by omega
          have hE := E.out
          rw [hm, takeGo_step] at hE
          have hCG := CG.out
          rw [hm] at hCG
          have hxw := hx.below BW.out
          have hlle := labelAt_le (xs.drop at_)
          rw [List.length_drop, HLE.out] at hlle
          have hlab : ∀ A2, Rd wr A2 ((xs.drop at_).map Bv) → Calls Tryd.prog 105 #[.slice A2 (len - at_) (c - at_)] wr fun e w' => e = .returned (.tuple #[.agg #[.string (labelAt (xs.drop at_)).1.1, .string (labelAt (xs.drop at_)).1.2], .int .i64 ((labelAt (xs.drop at_)).2.1 : Nat), .int .i64 ((labelAt (xs.drop at_)).2.2 : Nat)]) ∧ Below wr.heap.size wr w' := fun A2 h =>
            label_at_any A2 (c - at_) (len - at_) (xs.drop at_) wr (by rw [List.length_drop, HLE.out]) h (by omega) (by omega)
          have HM2 := Lib.hid hm2; clear hm hm2
          have hdd : ∀ q, (xs.drop at_).drop q = xs.drop (at_ + q) := fun q => List.drop_drop
          rw [hdd] at hE
          clear hdd
          generalize labelAt (xs.drop at_) = L at hE hlle hlab
          obtain ⟨⟨x1, x2⟩, q, er⟩ := L
          simp only at hE hlle hlab
          obtain ⟨l1, l2, l3⟩ := hlle
          have HXW := Lib.hid hxw; have HLAB := Lib.hid hlab; have HCG2 := Lib.hid hCG; have HE := Lib.hid hE; clear hxw hlab hCG hE E CG
          go_wp2_with (first
            | (refine wpList_slice_any (o := ⟨some 35, _, _, _, _, _⟩) ?_ 30 (.tmp 33) (some (.tmp 34)) none ?_ 5 Tryd.underlying30 (by kernel_rfl) A len c at_ len ?_ ?_ ?_ hat hc ?_; rfl; rfl; rfl; exact .inl rfl; exact .inr ⟨rfl, rfl⟩; intro A2 hA2 hrd2)
            | fail)
          have hr2 := hrd2 _ (by rw [List.length_map, HLE.out]; exact hc) HXW.out
          rw [← List.map_drop] at hr2
          have HR2 := Lib.hid hr2; clear hr2 hrd2 hA2
          refine (HLAB.out _ HR2.out).mono ?_
          rintro e w3 ⟨rfl, hb3⟩
          have hB3 := BW.out.trans (hb3.mono BW.out.size)
          have hCG3 := (hb3.block _ hgs).trans HCG2.out
          have hs3 := hb3.size
          have HB3 := Lib.hid hB3; have HCG3 := Lib.hid hCG3; clear hB3 hCG3 hb3
          by_cases he0 : er = 0
          · subst he0
            have hE2 := HE.out
            rw [if_neg (by simp)] at hE2
            have HE2 := Lib.hid hE2; clear hE2
            have hB4 : RowKit.Below w.heap.size w (w3.alloc (.cells #[.string x1, .string x2] 68)) := HB3.out.alloc HB3.out.size _
            have hCG4 := (Below.heap_alloc w3 (.cells #[.string x1, .string x2] 68) _ (show w.heap.size < w3.heap.size by omega)).trans HCG3.out
            have hbx := heap_alloc_new w3 (.cells #[.string x1, .string x2] 68)
            have hspl := spl_lab acc (x1, x2) m k hac
            have hsz : k * 2 + 2 ≤ (lcells acc ++ List.replicate ((m + 1) * 2) (Value.string ⟨#[]⟩)).toArray.size := by simp only [List.size_toArray, List.length_append, lcells_len, List.length_replicate, hac]; omega
            have HB4 := Lib.hid hB4; have HCG4 := Lib.hid hCG4; have HBX := Lib.hid hbx; have HSPL := Lib.hid hspl; have HSZ := Lib.hid hsz; clear hB4 hCG4 hbx hspl hsz
            go_wp2_with (first
              | (refine wpList_store_agg (o := ⟨none, _, _, _, _, _⟩) ?_ 68 (.tmp 46) (.tmp 45) ?_ w.heap.size (k * 2) [.string x1, .string x2] ?_ ?_ 68 _ HCG4.out (by kernel_rfl) HSZ.out (by intro v hv; simp at hv; rcases hv with rfl | rfl <;> rfl) ?_; rfl; rfl; rfl; rfl; intro w5 hg5 hmv5 hs5)
              | fail)
            have hg6 : w5.heap[w.heap.size]? = some (.cells (lcells (acc ++ [(x1, x2)]) ++ List.replicate ((n - (k + 1)) * 2) (Value.string ⟨#[]⟩)).toArray 68 (0, 0)) := by
              rw [hg5, HSPL.out, HM2.out]
            have hB6 : RowKit.Below w.heap.size w w5 := HB4.out.trans (hmv5.belowB HB4.out.size (fun i hi e => by omega))
            have hsm : Small (acc ++ [(x1, x2)]) := by
              intro x hx
              rcases List.mem_append.1 hx with hx | hx
              · exact SM.out x hx
              · rw [List.mem_singleton] at hx; subst hx; exact ⟨l2, l3⟩
            have hE6 : R = takeGo (acc ++ [(x1, x2)]) (n - (k + 1)) (at_ + q) (xs.drop (at_ + q)) := by rw [← HM2.out]; exact HE2.out
            go_roundw
            case rel => exact ⟨k + 1, at_ + q, acc ++ [(x1, x2)], by go_num, by go_num, by omega, by omega, by rw [List.length_append, hac]; rfl, hsm, hg6, hB6, hE6⟩
            case measure => simp [intOf]; omega
          · have hE2 := HE.out
            rw [if_pos he0] at hE2
            subst hE2
            have g0 : ((er : Int) != 0) = true := by rw [bne_iff_ne]; omega
            go_wp2
            go_ret3
            exact ⟨none, 0, rfl, Rd.nil _ _, HB3.out.alloc HB3.out.size _⟩
        · obtain rfl : k = n := by omega
          have hE := E.out
          rw [Nat.sub_self, takeGo_zero] at hE
          have hCG := CG.out
          rw [Nat.sub_self, Nat.zero_mul, List.replicate_zero, List.append_nil] at hCG
          have hrd9 : Rd wr (some ⟨w.heap.size, 0, none⟩) (lcells acc) := own_rd2 (tl := []) (by simpa using hCG)
          subst hac
          have hright := right_any (some ⟨w.heap.size, 0, none⟩) acc.length acc wr (HT.out.below BW.out) hrd9 (small_few SM.out (by omega))
          have HRD := Lib.hid hrd9; have HRI := Lib.hid hright; have HE := Lib.hid hE; clear hrd9 hright hE hCG CG E
          go_wp2_with fail
          refine HRI.out.mono ?_
          rintro e w3 ⟨rfl, hb3⟩
          have hB3 := BW.out.trans (hb3.mono BW.out.size)
          have hrd3 := HRD.out.below hb3
          have hE := HE.out
          by_cases hz : rightP acc = 0
          · rw [if_neg (by omega)] at hE
            subst hE
            rw [hz]
            clear hz
            go_wp2
            go_ret3
            exact ⟨_, _, rfl, hrd3, hB3⟩
          · rw [if_pos hz] at hE
            obtain ⟨z, hzz⟩ : ∃ z, z = rightP acc := ⟨_, rfl⟩
            rw [← hzz] at hE hz ⊢
            clear hzz
            subst hE
            have g0 : ((z : Int) != 0) = true := by rw [bne_iff_ne]; omega
            go_wp2
            go_ret3
            exact ⟨none, 0, rfl, Rd.nil _ _, hB3⟩
  · rw [if_pos he] at hR'
    subst hR'
    clear hgo hR
    have g0 : ((e : Int) != 0) = true := by rw [bne_iff_ne]; omega
    go_enter Tryd.func85, Tryd.ntmps85
    go_wp2_with fail
    refine HU.out.mono ?_
    rintro e w1 ⟨rfl, rfl⟩
    go_wp2
    go_ret3
    exact ⟨none, 0, rfl, Rd.nil _ _, RowKit.Below.refl _ _⟩
end
end Go.Proofs.YtgogpngobdafaaaDoor
