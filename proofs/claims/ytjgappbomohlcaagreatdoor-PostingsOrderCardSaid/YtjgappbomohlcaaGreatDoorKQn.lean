/-
  A member of a class. Atoms in memory with other followers. What a parser in memory is behind calls that turn its atoms; rows appended. Atoms get followers. An atom added behind all that are there. An escape that is an atom. A class. An atom of a pattern, its groups given.
-/
import Derived.Laws.Cover3
import Derived.Deep.AppendLies
import Derived.Deep.RegionHeld3
import Derived.Test.YtjgappbomohlcaaGreatDoorKQa
namespace Go.Proofs.YtjgappbomohlcaaGreatDoor
section
set_option linter.unusedVariables false
set_option linter.unusedSimpArgs false
section
set_option linter.unusedVariables false
set_option linter.unusedSimpArgs false
section
open Go.RowKit
theorem now_small {l : List Pc} (h : ∀ q ∈ l, q.2 ≤ 1114111) : nowP l ≤ 1114111 := by
  cases l with
  | nil => simp [nowP]
  | cons q t => exact h q List.mem_cons_self
theorem singleP_le {w : World} {p : Nat} {l : List Pc} {v : Value} {us : List Value} {L : List Atm} (h : PIs w p l v us L) {least c : Int} {l1 : List Pc} (e : singleP least l = .ok (c, l1)) : c ≤ 1114111 := by
  have h0 : ∀ q ∈ l, q.2 ≤ 1114111 := fun q hq => (h.small q hq).2.2
  unfold singleP at e
  split at e
  · unfold rescP at e
    split at e
    · split at e
      · injection e with e; injection e with e _; rw [← e]; exact now_small fun q hq => h0 q (List.mem_of_mem_tail hq)
      · cases e
    · cases e
  · split at e
    · injection e with e; injection e with e _; rw [← e]; exact now_small h0
    · cases e
theorem ne_nil (a : Option Addr) (l c : Nat) (W : World) : (binOp .neq 215 (.slice a l c) (.slice none 0 0)).run Tryz.prog W = .ok (.bool (!a.isNone)) W := run_neq_slice_nil _ _ _ _ _ _ Tryz.underlying215
def OutS (p : Nat) (v : Value) (us : List Value) (L : List Atm) (w : World) (r : Rs Spans) (e : Ending) (w' : World) : Prop :=
  match r with
  | .ok (g, l') => ∃ b n c, e = .returned (.slice (some ⟨b, 0, none⟩) n c) ∧ n = g.length ∧ w'.ownsRow w.heap.size 234 2 (.slice (some ⟨b, 0, none⟩) n c) n (spC g) ∧ PIs w' p l' v us L ∧ Mv (fun k => k = p) w w'
  | .error f => e = flE f ∧ Mv (fun k => k = p) w w'
theorem PIs.next {w : World} {p : Nat} {l : List Pc} {v : Value} {us : List Value} {L : List Atm} (h : PIs w p l v us L) (hn : nowP l ≠ -1) :
    ∃ pb off c, w.heap[p]? = some (.cells #[.slice (some ⟨pb, off, none⟩) l.length c, v] 211 (0, 0)) ∧ 1 < l.length ∧ w.cell? ⟨pb, off + 2 + 1, none⟩ = some (.int .i32 (nowP l.tail)) := by
  have h2 := h.more hn
  obtain ⟨pb, off, c, hb, _, _, _, hr⟩ := h.box
  obtain ⟨q, t, rfl⟩ : ∃ q t, l = q :: t := by
    cases l with
    | nil => simp at h2
    | cons q t => exact ⟨q, t, rfl⟩
  obtain ⟨q2, t, rfl⟩ : ∃ q t', t = q :: t' := by
    cases t with
    | nil => simp at h2
    | cons q t => exact ⟨q, t, rfl⟩
  refine ⟨pb, off, c, hb, by simp, ?_⟩
  obtain ⟨b, o, e, hc⟩ := hr 3 (.int .i32 q2.2) rfl
  injection e with e; injection e with e1 e2; subst e1; subst e2
  exact hc
section
set_option maxHeartbeats 1600000
set_option maxRecDepth 100000
theorem many_none (p : Nat) (l : List Pc) (v : Value) (us : List Value) (L : List Atm) (w : World) (h : PIs w p l v us L) (hm : manyL l = none) : Calls Tryz.prog 191 #[.pointer (some ⟨p, 0, none⟩)] w fun e w' => e = .returned (.slice none 0 0) ∧ w' = w := by
  have hnow := now_any p l v us L w h
  unfold manyL at hm
  by_cases h92 : nowP l = 92
  · rw [if_pos h92] at hm
    obtain ⟨pb, off, c, hb, hl, c3⟩ := h.next (by rw [h92]; decide)
    have b0 := cell_blk hb 0
    simp only [List.getElem?_toArray, List.getElem?_cons_zero] at b0
    have hs := several_none (nowP l.tail) w hm
    rw [h92] at hnow
    generalize nowP l.tail = x at c3 hs
    have hl' : (1 : Int) < (l.length : Int) := by omega
    have HN := Lib.hid hnow; have HS := Lib.hid hs; clear hnow hs h hb hl hm
    have hne := fun W => ne_nil none 0 0 W
    simp only [Option.isNone_none, Bool.not_true] at hne
    go_enter Tryz.func191, Tryz.ntmps191
    go_wp2_with fail
    refine HN.out.mono ?_
    rintro e w1 ⟨rfl, rfl⟩
    go_wp2_with fail
    refine HS.out.mono ?_
    rintro e w2 ⟨rfl, rfl⟩
    go_wp2
    go_ret
    exact ⟨rfl, rfl⟩
  · have g92 : (nowP l != 92) = true := by rw [bne_iff_ne]; exact h92
    generalize nowP l = x at hnow g92
    have HN := Lib.hid hnow; clear hnow h hm h92
    go_enter Tryz.func191, Tryz.ntmps191
    go_wp2_with fail
    refine HN.out.mono ?_
    rintro e w1 ⟨rfl, rfl⟩
    go_wp2
    go_ret
    exact ⟨rfl, rfl⟩
theorem many_some (p : Nat) (l : List Pc) (v : Value) (us : List Value) (L : List Atm) (g : Spans) (w : World) (h : PIs w p l v us L) (hm : manyL l = some g) : Calls Tryz.prog 191 #[.pointer (some ⟨p, 0, none⟩)] w fun e w' => OutS p v us L w (.ok (g, l.tail.tail)) e w' := by
  have hnow := now_any p l v us L w h
  obtain ⟨hsh, h92, hn1⟩ := manyL_some h.ok hm
  have hn0 : nowP l ≠ -1 := by rw [h92]; decide
  unfold manyL at hm
  rw [if_pos h92] at hm
  obtain ⟨pb, off, c, hb, hl, c3⟩ := h.next hn0
  have b0 := cell_blk hb 0
  simp only [List.getElem?_toArray, List.getElem?_cons_zero] at b0
  have hs := several_some (nowP l.tail) g w hm
  rw [h92] at hnow
  have HP := Lib.hid (fun W (m : Below w.heap.size w W) => pass_any p l v us L W (h.below m) hn0)
  have HP2 := Lib.hid (fun W (k : PIs W p l.tail v us L) => pass_any p l.tail v us L W k hn1)
  have hlt := h.lt
  generalize nowP l.tail = x at c3 hs
  have hl' : (1 : Int) < (l.length : Int) := by omega
  have HN := Lib.hid hnow; have HS := Lib.hid hs; clear hnow hs h hb hl hm hsh hn0 hn1
  have hne := fun b l c W => ne_nil (some ⟨b, 0, none⟩) l c W
  simp only [Option.isNone_some, Bool.not_false] at hne
  go_enter Tryz.func191, Tryz.ntmps191
  go_wp2_with fail
  refine HN.out.mono ?_
  rintro e w1 ⟨rfl, rfl⟩
  go_wp2_with fail
  refine HS.out.mono ?_
  rintro e w2 ⟨rfl, ho, hb2⟩
  have HO := Lib.hid ho; have HB := Lib.hid hb2; clear ho hb2
  go_wp2_with fail
  refine (HP.out _ HB.out).mono ?_
  rintro e w3 ⟨rfl, h3, hm3⟩
  have H3 := Lib.hid h3; have HM3 := Lib.hid hm3; clear h3 hm3
  go_wp2_with fail
  refine (HP2.out _ H3.out).mono ?_
  rintro e w4 ⟨rfl, h4, hm4⟩
  go_wp2
  go_ret
  have hm : Mv (fun k => k = p) w2 w4 := HM3.out.trans hm4 fun _ _ h => h
  refine ⟨_, _, _, rfl, rfl, own_mv HO.out hm fun k hk e => ?_, h4, (Mv.of_below HB.out _).trans hm fun _ _ h => h⟩
  have := (HO.out.lt k hk).1
  omega
theorem member_any (p : Nat) (l : List Pc) (v : Value) (us : List Value) (L : List Atm) (w : World) (h : PIs w p l v us L) :
    Calls Tryz.prog 190 #[.pointer (some ⟨p, 0, none⟩)] w (OutS p v us L w (memberP l)) := by
  obtain ⟨R, hR⟩ : ∃ R, R = memberP l := ⟨_, rfl⟩
  rw [← hR]
  unfold memberP at hR
  cases hm : manyL l with
  | some g =>
    rw [hm] at hR
    have HM := Lib.hid (many_some p l v us L g w h hm)
    have HR := Lib.hid hR
    have hne := fun b l c W => ne_nil (some ⟨b, 0, none⟩) l c W
    simp only [Option.isNone_some, Bool.not_false] at hne
    clear hR hm h
    go_enter Tryz.func190, Tryz.ntmps190
    go_wp2_with fail
    refine HM.out.mono ?_
    rintro e w1 ⟨b, n, c, rfl, hn, ho⟩
    have HO := Lib.hid (And.intro hn ho); clear hn ho
    go_wp2
    go_ret
    rw [HR.out]
    exact ⟨b, n, c, rfl, HO.out⟩
  | none =>
    rw [hm] at hR
    simp only at hR
    have HM := Lib.hid (many_none p l v us L w h hm)
    have hne := fun W => ne_nil none 0 0 W
    simp only [Option.isNone_none, Bool.not_true] at hne
    have hs := single_any p l v us L 0 w h (by decide) (by decide)
    have hshr := fun c l1 (e : singleP 0 l = .ok (c, l1)) => singleP_shr h.ok (by decide) e
    have HSH := Lib.hid hshr
    have hle0 := fun c l1 (e : singleP 0 l = .ok (c, l1)) => singleP_le h e
    have HL0 := Lib.hid hle0; clear hshr hm h hle0
    generalize singleP 0 l = r1 at hs hR HSH HL0
    have HS := Lib.hid hs; clear hs
    cases r1 with
    | error f =>
      have HR := Lib.hid hR; clear hR
      go_enter Tryz.func190, Tryz.ntmps190
      go_wp2_with fail
      refine HM.out.mono ?_
      rintro e w1 ⟨rfl, rfl⟩
      go_wp2_with fail
      refine HS.out.mono ?_
      rintro e w2 ⟨rfl, hm2⟩
      have HM2 := Lib.hid hm2; clear hm2
      unfold flE
      go_wp2
      rw [HR.out]
      exact ⟨rfl, rfl, HM2.out⟩
    | ok x =>
      obtain ⟨lo, l1⟩ := x
      simp only at hR
      have hlo := (HSH.out lo l1 rfl).2.2
      have HLE := Lib.hid (HL0.out lo l1 rfl)
      have HR := Lib.hid hR; clear hR HSH HL0
      go_enter Tryz.func190, Tryz.ntmps190
      go_wp2_with fail
      refine HM.out.mono ?_
      rintro e w1 ⟨rfl, rfl⟩
      go_wp2_with fail
      refine HS.out.mono ?_
      rintro e w2 ⟨rfl, h2, hm2⟩
      have HM2 := Lib.hid hm2; have H2 := Lib.hid h2; clear hm2 h2
      have HN := Lib.hid (now_any p l1 v us L w2 H2.out)
      have hle := HLE.out
      by_cases h45 : nowP l1 = 45
      · have hR := HR.out
        rw [if_pos h45] at hR
        have hn1 : nowP l1 ≠ -1 := by rw [h45]; decide
        have HP := Lib.hid (pass_any p l1 v us L w2 H2.out hn1)
        have HS2 := Lib.hid (fun W (k : PIs W p l1.tail v us L) => single_any p l1.tail v us L lo W k hlo hle)
        have hN := HN.out
        rw [h45] at hN
        have HNN := Lib.hid hN
        clear HR HN hN hn1 h45
        generalize singleP lo l1.tail = r2 at HS2 hR
        have HRR := Lib.hid hR; clear hR
        go_wp2_with fail
        refine HNN.out.mono ?_
        rintro e w3 ⟨rfl, rfl⟩
        go_wp2_with fail
        refine HP.out.mono ?_
        rintro e w4 ⟨rfl, h4, hm4⟩
        have H4 := Lib.hid h4; have HM4 := Lib.hid hm4; clear h4 hm4
        cases r2 with
        | error f =>
          have HR := Lib.hid HRR.out
          go_wp2_with fail
          refine (HS2.out _ H4.out).mono ?_
          rintro e w5 ⟨rfl, hm5⟩
          have HM5 := Lib.hid hm5; clear hm5
          unfold flE
          go_wp2
          rw [HR.out]
          exact ⟨rfl, rfl, (HM2.out.trans HM4.out fun _ _ h => h).trans HM5.out fun _ _ h => h⟩
        | ok y =>
          obtain ⟨hi, l2⟩ := y
          have hR := HRR.out
          simp only at hR
          have HR := Lib.hid hR; clear hR HRR
          go_wp2_with fail
          refine (HS2.out _ H4.out).mono ?_
          rintro e w5 ⟨rfl, h5, hm5⟩
          have HM5 := Lib.hid hm5; have H5 := Lib.hid h5; clear hm5 h5
          go_wp2
          go_ret
          rw [HR.out]
          have hmm := (HM2.out.trans HM4.out fun _ _ h => h).trans HM5.out fun _ _ h => h
          have hb : RowKit.Below w5.heap.size w5 (w5.alloc (.cells #[.int .i32 lo, .int .i32 hi] 234)) := (RowKit.Below.refl _ w5).alloc (Nat.le_refl _) _
          exact ⟨_, _, _, rfl, rfl, (own_fresh (w := w5) (e := 234) (size := 2) (n := 1) (xs := [.int .i32 lo, .int .i32 hi]) rfl (by decide)).lower hmm.size, H5.out.below hb, hmm.alloc _⟩
      · have hR := HR.out
        rw [if_neg h45] at hR
        have g45 : (nowP l1 == 45) = false := by rw [beq_eq_false_iff_ne]; exact h45
        have HRR := Lib.hid hR
        generalize nowP l1 = c at g45 HN
        clear HR hR h45
        go_wp2_with fail
        refine HN.out.mono ?_
        rintro e w3 ⟨rfl, rfl⟩
        go_wp2
        go_ret
        rw [HRR.out]
        have hb : RowKit.Below w3.heap.size w3 (w3.alloc (.cells #[.int .i32 lo, .int .i32 lo] 234)) := (RowKit.Below.refl _ w3).alloc (Nat.le_refl _) _
        exact ⟨_, _, _, rfl, rfl, (own_fresh (w := w3) (e := 234) (size := 2) (n := 1) (xs := [.int .i32 lo, .int .i32 lo]) rfl (by decide)).lower HM2.out.size, H2.out.below hb, HM2.out.alloc _⟩
end
end
section
set_option linter.unusedVariables false
set_option linter.unusedSimpArgs false
open Go.RowKit
/-- A cell of a row of one's own with another value. -/
theorem own_set {w : World} {B : Nat} {e : TypeId} {size n cap g : Nat} {xs : List Value} (h : w.ownsRow B e size (.slice (some ⟨g, 0, none⟩) n cap) n xs) {j : Nat} (hj : j < n * size) (x : Value) :
    (w.setCell ⟨g, j, none⟩ x).ownsRow B e size (.slice (some ⟨g, 0, none⟩) n cap) n (xs.set j x) := by
  obtain ⟨hl, h2⟩ := h
  refine ⟨by rw [List.length_set]; exact hl, ?_⟩
  rcases h2 with ⟨e1, _⟩ | ⟨g', cap', cur, e1, hB, hh, hn, hc, hs, ht⟩
  · cases e1
  · injection e1 with e1 e2 e3
    injection e1 with e1; injection e1 with e1
    subst e1
    refine .inr ⟨g, cap', _, by rw [e3], hB, set_blk hh j x, hn, hc, by simpa using hs, ?_⟩
    rw [Array.toList_setIfInBounds, List.take_set, ht]
theorem atC_len (u : Value) (a : Atm) : (atC u a).length = 6 := rfl
theorem atsC_get : ∀ (us : List Value) (L : List Atm) (i : Nat) (u : Value) (a : Atm), us[i]? = some u → L[i]? = some a → ∀ j, j < 6 → (atsC us L)[i * 6 + j]? = (atC u a)[j]?
  | u :: us, a :: L, 0, u', a', hu, ha, j, hj => by
    simp at hu ha; subst hu; subst ha
    rw [atsC, Nat.zero_mul, Nat.zero_add, List.getElem?_append_left (by rw [atC_len]; exact hj)]
  | u :: us, a :: L, i + 1, u', a', hu, ha, j, hj => by
    simp only [List.getElem?_cons_succ] at hu ha
    rw [atsC, List.getElem?_append_right (by rw [atC_len]; omega), atC_len, ← atsC_get us L i u' a' hu ha j hj]
    congr 1; omega
  | [], _, i, _, _, hu, _, _, _ => by simp at hu
  | _ :: _, [], i, _, _, _, ha, _, _ => by simp at ha
def nextC (n : Nat) (i : Nat) (xs : List Value) : List Value := (((xs.set (i * 6 + 2) (.int .u64 (wd n 0 : Nat))).set (i * 6 + 3) (.int .u64 (wd n 1 : Nat))).set (i * 6 + 4) (.int .u64 (wd n 2 : Nat))).set (i * 6 + 5) (.int .u64 (wd n 3 : Nat))
theorem nextC_cons (n i : Nat) (x0 x1 x2 x3 x4 x5 : Value) (xs : List Value) : nextC n (i + 1) ([x0, x1, x2, x3, x4, x5] ++ xs) = [x0, x1, x2, x3, x4, x5] ++ nextC n i xs := by
  unfold nextC
  have e : ∀ k, (i + 1) * 6 + k = i * 6 + k + 6 := fun k => by omega
  simp only [e, List.cons_append, List.nil_append, List.set_cons_succ]
theorem atsC_next : ∀ (us : List Value) (L : List Atm) (i : Nat) (a : Atm) (n : Nat), us.length = L.length → L[i]? = some a → nextC n i (atsC us L) = atsC us (L.set i { a with next := n })
  | u :: us, a :: L, 0, a', n, hl, ha => by
    simp at ha; subst ha
    rfl
  | u :: us, a :: L, i + 1, a', n, hl, ha => by
    simp only [List.getElem?_cons_succ] at ha
    rw [List.set_cons_succ, atsC, atsC, ← atsC_next us L i a' n (by simpa using hl) ha]
    exact nextC_cons n i _ _ _ _ _ _ _
  | _, [], i, _, _, _, ha => by simp at ha
  | [], _ :: _, _, _, _, hl, _ => by simp at hl
/-- Followed as far as atom k. -/
def folK (these nx k : Nat) (L : List Atm) : List Atm := (followP these nx L).take k ++ L.drop k
theorem folK_zero (these nx : Nat) (L : List Atm) : folK these nx 0 L = L := by simp [folK]
theorem folP_len (these nx : Nat) : ∀ (A : List Atm) (k : Nat), (followF these nx k A).length = A.length
  | [], k => rfl
  | a :: t, k => by simp [followF, folP_len these nx t (k + 1)]
theorem folK_all (these nx : Nat) (L : List Atm) : folK these nx L.length L = followP these nx L := by
  unfold folK
  rw [List.drop_length, List.append_nil, List.take_of_length_le]
  unfold followP; rw [folP_len]; exact Nat.le_refl _
theorem folK_len (these nx k : Nat) (L : List Atm) (hk : k ≤ L.length) : (folK these nx k L).length = L.length := by
  have : (followP these nx L).length = L.length := folP_len _ _ _ _
  unfold folK
  rw [List.length_append, List.length_take, List.length_drop, this]; omega
theorem folF_get (these nx : Nat) : ∀ (A : List Atm) (k i : Nat), (followF these nx k A)[i]? = (A[i]?).map fun a => if these.testBit (k + i) then { a with next := a.next ||| nx } else a
  | [], k, i => by simp [followF]
  | a :: t, k, 0 => by simp [followF]
  | a :: t, k, i + 1 => by
    simp only [followF, List.getElem?_cons_succ]
    rw [folF_get these nx t (k + 1) i, show k + 1 + i = k + (i + 1) by omega]
theorem folK_at (these nx : Nat) {k : Nat} {L : List Atm} {a : Atm} (h : L[k]? = some a) : (folK these nx k L)[k]? = some a := by
  have hk := (List.getElem?_eq_some_iff.mp h).1
  have : (followP these nx L).length = L.length := folP_len _ _ _ _
  unfold folK
  rw [List.getElem?_append_right (by rw [List.length_take]; omega), List.length_take, List.getElem?_drop, this, show k + (k - min k L.length) = k by omega, h]
theorem folK_step (these nx : Nat) {k : Nat} {L : List Atm} {a : Atm} (h : L[k]? = some a) : folK these nx (k + 1) L = (folK these nx k L).set k (if these.testBit k then { a with next := a.next ||| nx } else a) := by
  have hk := (List.getElem?_eq_some_iff.mp h).1
  have hl : (followP these nx L).length = L.length := folP_len _ _ _ _
  have hg : (followP these nx L)[k]? = some (if these.testBit k then { a with next := a.next ||| nx } else a) := by
    unfold followP; rw [folF_get, h, Nat.zero_add]; rfl
  unfold folK
  rw [List.take_add_one, hg, List.set_append_right _ _ (by rw [List.length_take]; omega), List.length_take, hl, show k - min k L.length = 0 by omega, List.drop_eq_getElem_cons hk, List.set_cons_zero, List.append_assoc]
  rfl
theorem folK_same (these nx : Nat) {k : Nat} {L : List Atm} {a : Atm} (h : L[k]? = some a) (hf : these.testBit k = false) : folK these nx (k + 1) L = folK these nx k L := by
  rw [folK_step these nx h, hf]
  simp only [Bool.false_eq_true, if_false]
  apply List.ext_getElem?
  intro i
  rw [List.getElem?_set]
  split
  · rename_i e; subst e
    rw [folK_at these nx h]
    split
    · rfl
    · rename_i hx
      rw [folK_len these nx k L (by have := (List.getElem?_eq_some_iff.mp h).1; omega)] at hx
      exact absurd (List.getElem?_eq_some_iff.mp h).1 hx
  · rfl
end
end
section
set_option linter.unusedVariables false
set_option linter.unusedSimpArgs false
open Go.RowKit
theorem PIs.keep {S : Nat → Prop} {w w' : World} {p : Nat} {l : List Pc} {v : Value} {us : List Value} {L : List Atm} (h : PIs w p l v us L) (m : Mv S w w') (h1 : ∀ k, k ≤ p → ¬ S k) (h2 : ∀ k, v.ownBlock = some k → ¬ S k) (h3 : ∀ (i : Nat) (u : Value) (a : Atm), us[i]? = some u → L[i]? = some a → ∀ k, u.ownBlock = some k → ¬ S k) : PIs w' p l v us L := by
  obtain ⟨pb, off, c, hb, hp, hlc, hc, hr⟩ := h.box
  refine ⟨⟨pb, off, c, (m.block _ (blk_lt hb) (h1 _ (Nat.le_refl _))).trans hb, hp, hlc, hc, hr.blk fun b hb' e => ?_⟩, ⟨h.at'.len, own_mv h.at'.row m h2, fun i u a hu ha => own_mv (h.at'.sp i u a hu ha) m (h3 i u a hu ha)⟩, h.ok, h.small, h.few⟩
  injection e with e
  simp only at e
  subst e
  exact m.block _ hb' (h1 _ (by omega))
/-- Blocks from B on turned: what the parser owns lies below. -/
theorem PIs.high {S : Nat → Prop} {w0 w w' : World} {p : Nat} {l0 l : List Pc} {v : Value} {us : List Value} {L : List Atm} (h0 : PIs w0 p l0 v us L) (h : PIs w p l v us L) (m : Mv S w w') (hS : ∀ k, S k → w0.heap.size ≤ k) : PIs w' p l v us L :=
  h.keep m (fun k hk hs => by have := hS k hs; have := h0.lt; omega) (fun k hk hs => by have := hS k hs; have := (h0.at'.row.lt k hk).2; omega)
    (fun i u a hu ha k hk hs => by have := hS k hs; have := ((h0.at'.sp i u a hu ha).lt k hk).2; omega)
/-- Atoms turned. -/
theorem PIs.turn {S : Nat → Prop} {w w' : World} {p : Nat} {l : List Pc} {v v' : Value} {us us' : List Value} {L L' : List Atm} (h : PIs w p l v us L) (m : Mv S w w') (h1 : ∀ k, k < p → ¬ S k)
    (hb : ∀ x, w.heap[p]? = some (.cells #[x, v] 211 (0, 0)) → w'.heap[p]? = some (.cells #[x, v'] 211 (0, 0))) (ha : AtIs w' (p + 1) v' us' L') (hf : L'.length + l.length ≤ 257) : PIs w' p l v' us' L' := by
  obtain ⟨pb, off, c, hb', hp, hlc, hc, hr⟩ := h.box
  refine ⟨⟨pb, off, c, hb _ hb', hp, hlc, hc, hr.blk fun b hb' e => ?_⟩, ha, h.ok, h.small, hf⟩
  injection e with e
  simp only at e
  subst e
  exact m.block _ hb' (h1 _ hp)
theorem PIs.ne_sp {w : World} {p : Nat} {l : List Pc} {v : Value} {us : List Value} {L : List Atm} (h : PIs w p l v us L) {i : Nat} {u : Value} {a : Atm} (hu : us[i]? = some u) (ha : L[i]? = some a) {k : Nat} (hk : u.ownBlock = some k) : v.ownBlock ≠ some k :=
  own_own (h.at'.sp i u a hu ha) h.at'.row (by decide) hk
def lenSl : Value → Nat
  | Value.slice _ n _ => n
  | _ => 0
/-- How many places are left, as the parser's box says. -/
def restN (p : Nat) (w : World) : Nat :=
  match w.heap[p]? with
  | some (Obj.cells cs _ _) => lenSl (cs[0]?.getD (.bool false))
  | _ => 0
theorem PIs.restN {w : World} {p : Nat} {l : List Pc} {v : Value} {us : List Value} {L : List Atm} (h : PIs w p l v us L) : restN p w = l.length := by
  obtain ⟨pb, off, c, hb, _⟩ := h.box
  simp [Go.Proofs.YtjgappbomohlcaaGreatDoor.restN, hb, lenSl]
theorem memberP_len {l : List Pc} {m : Spans} {l1 : List Pc} (e : memberP l = .ok (m, l1)) : m.length ≤ 4 := by
  unfold memberP at e
  split at e
  · rename_i g hg
    injection e with e; injection e with e _; subst e
    unfold manyL at hg
    split at hg
    · unfold manyP at hg
      split at hg
      · injection hg with hg; subst hg; decide
      · split at hg
        · injection hg with hg; subst hg; decide
        · split at hg
          · injection hg with hg; subst hg; decide
          · cases hg
    · cases hg
  · split at e
    · cases e
    · split at e
      · split at e
        · cases e
        · injection e with e; injection e with e _; subst e; simp
      · injection e with e; injection e with e _; subst e; simp
/-- What parts of the parser may do: its box, the row of its atoms. -/
def PM (p : Nat) (v : Value) (k : Nat) : Prop := k = p ∨ v.ownBlock = some k
structure Mvd (p : Nat) (v v' : Value) (w w' : World) : Prop where
  mv : Mv (PM p v) w w'
  own : ∀ k, v'.ownBlock = some k → v.ownBlock = some k ∨ w.heap.size ≤ k
theorem Mvd.refl (p : Nat) (v : Value) (w : World) : Mvd p v v w w := ⟨Mv.refl _ _, fun _ h => .inl h⟩
theorem Mvd.err {p : Nat} {v v1 : Value} {w w1 w2 : World} (h : Mvd p v v1 w w1) (m : Mv (PM p v1) w1 w2) : Mv (PM p v) w w2 :=
  h.mv.trans m fun i hi hT => by
    rcases hT with e | e
    · exact .inl e
    · rcases h.own i e with e | e
      · exact .inr e
      · omega
theorem Mvd.trans {p : Nat} {v v1 v2 : Value} {w w1 w2 : World} (h : Mvd p v v1 w w1) (k : Mvd p v1 v2 w1 w2) : Mvd p v v2 w w2 :=
  ⟨h.err k.mv, fun i e => by
    rcases k.own i e with e | e
    · exact h.own i e
    · exact .inr (Nat.le_trans h.mv.size e)⟩
theorem Mvd.box {p : Nat} {v : Value} {w w' : World} (m : Mv (fun k => k = p) w w') : Mvd p v v w w' := ⟨m.mono fun _ _ h => .inl h, fun _ h => .inl h⟩
theorem Mvd.row {p : Nat} {v : Value} {w w' : World} (m : Mv (fun k => v.ownBlock = some k) w w') : Mvd p v v w w' := ⟨m.mono fun _ _ h => .inr h, fun _ h => .inl h⟩
theorem Mvd.of_below {p : Nat} {v : Value} {w w' : World} (m : Below w.heap.size w w') : Mvd p v v w w' := ⟨Mv.of_below m _, fun _ h => .inl h⟩
theorem Mvd.size {p : Nat} {v v' : Value} {w w' : World} (h : Mvd p v v' w w') : w.heap.size ≤ w'.heap.size := h.mv.size
theorem own_rdg {w : World} {base : Nat} {e : TypeId} {size : Nat} {v : Value} {n : Nat} {xs : List Value} (h : w.ownsRow base e size v n xs) :
    ∃ A cap, v = .slice A n cap ∧ Rd w A xs ∧ n ≤ cap ∧ cap ≤ maxLen := by
  rcases h.2 with ⟨rfl, rfl⟩ | ⟨g, cap, cur, rfl, _, _, hnc, hcm, _⟩
  · have : xs = [] := List.eq_nil_of_length_eq_zero (by simpa using h.1)
    subst this
    exact ⟨none, 0, rfl, Rd.nil _ _, Nat.le_refl _, Nat.zero_le _⟩
  · refine ⟨some ⟨g, 0, none⟩, cap, rfl, fun k u hk => ?_, hnc, hcm⟩
    have := h.cells (g := g) rfl k u hk
    have hadd : (⟨g, 0, none⟩ : Addr).add k = ⟨g, k, none⟩ := by unfold Addr.add; split <;> simp_all
    exact ⟨g, 0, rfl, by rw [hadd] at this; simpa using this⟩
theorem own_read {w : World} {B : Nat} {e : TypeId} {size n b c m : Nat} {xs : List Value} (h : w.ownsRow B e size (.slice (some ⟨b, 0, none⟩) m c) n xs) : Rd w (some ⟨b, 0, none⟩) xs := by
  obtain ⟨A, cap, e1, hr, -, -⟩ := own_rdg h
  injection e1 with e1 _ _
  rw [e1]; exact hr
theorem infoAtom : (Tryz.prog.info? 217).map (fun i => (i.zero, i.size, i.bytes)) = some (some (.agg #[.slice none 0 0, .bool false, .int .u64 0, .int .u64 0, .int .u64 0, .int .u64 0]), 6, 64) := by kernel_rfl
theorem infoSpan : (Tryz.prog.info? 234).map (fun i => (i.zero, i.size, i.bytes)) = some (some (.agg #[.int .i32 0, .int .i32 0]), 2, 8) := by kernel_rfl
theorem info_g {P : Program} {e : TypeId} {z : Value} {sz by' : Nat} (h : (P.info? e).map (fun i => (i.zero, i.size, i.bytes)) = some (some z, sz, by')) : ∃ i, P.info? e = some i ∧ i.zero = some z ∧ i.size = sz ∧ i.bytes = by' := by
  cases hi : P.info? e with
  | none => simp [hi] at h
  | some i => simp [hi] at h; exact ⟨i, rfl, h⟩
/-- append onto a row of one's own of what can be read. -/
theorem wpList_append_g {P : Program} {w : World} {ops : Array Oper} {rest : List Oper} {o : Oper} {a : Act} {Q : Exit → Act → World → Prop} (hgd : o.guard = none) (s x : Operand) (t e : TypeId) (z : Value) (sz by' : Nat)
    (hinf : (P.info? e).map (fun i => (i.zero, i.size, i.bytes)) = some (some z, sz, by')) (ht : P.underlying t = some (.slice e)) (hzs : z.cells.size = sz) (hsz : 0 < sz)
    (ho : o.op = .call { callee := .builtin .append, args := #[s, x], argTypes := #[t, t] })
    (base : Nat) (v : Value) (n : Nat) (xs : List Value) (hs : a.eval s = v) (hown : w.ownsRow base e sz v n xs)
    (A : Option Addr) (m c : Nat) (ys : List Value) (hx : a.eval x = .slice A m c) (hy : Rd w A ys) (hyl : ys.length = m * sz) (h1 : ∀ u ∈ ys, u.oneCell' = true)
    (h63 : n + m ≤ maxLen) (hby : (n + m) * by' ≤ 140737488355328) (hbase : base ≤ w.heap.size)
    (h : ∀ v' w', w'.ownsRow base e sz v' (n + m) (xs ++ ys) → w.grownBy w' v.ownBlock → wpList P ops Q rest (a.put o.dst v') w') : wpList P ops Q (o :: rest) a w := by
  obtain ⟨i0, hi, hz0, hz1, hz2⟩ := info_g hinf
  cases A with
  | some ad =>
    exact wpList_append_own w hgd s x t ho base e i0 z sz by' ht hi hz0 hz1 hz2 hzs hsz v n xs hs hown ad m c ys hx hyl (rd_cells hy) h1 h63 hby hbase (fun v' w' a b _ => h v' w' a b)
  | none =>
    have h0 : ys = [] := by
      cases ys with
      | nil => rfl
      | cons u r => obtain ⟨b, off, e', _⟩ := hy 0 u rfl; cases e'
    subst h0
    have hm : m = 0 := by
      have h2 : m * sz = 0 := by simpa using hyl.symm
      rcases Nat.mul_eq_zero.mp h2 with h2 | h2
      · exact h2
      · omega
    subst hm
    have hrun := run_append_none (P := P) base t o.type e i0 sz ht hi v n c xs hown
    refine wpList_plain hgd fun K hK => ?_
    unfold Oper.wp execOp
    simp only [ho, resolve, invoke, builtin, Sem.run_bind, Sem.run_pure, Result.andThen_ok, List.map_toArray, List.map_cons, List.map_nil, hs, hx, List.length_nil, hrun]
    exact hK _ _ (h v w (by simpa using hown) ⟨rfl, rfl, rfl, Nat.le_refl _, fun _ _ _ => rfl⟩)
theorem wp_append_g {P : Program} {w : World} {o : Oper} {a : Act} {K : Act → World → Prop} {Q : Exit → Act → World → Prop} (s x : Operand) (t e : TypeId) (z : Value) (sz by' : Nat)
    (hinf : (P.info? e).map (fun i => (i.zero, i.size, i.bytes)) = some (some z, sz, by')) (ht : P.underlying t = some (.slice e)) (hzs : z.cells.size = sz) (hsz : 0 < sz)
    (ho : o.op = .call { callee := .builtin .append, args := #[s, x], argTypes := #[t, t] })
    (base : Nat) (v : Value) (n : Nat) (xs : List Value) (hs : a.eval s = v) (hown : w.ownsRow base e sz v n xs)
    (A : Option Addr) (m c : Nat) (ys : List Value) (hx : a.eval x = .slice A m c) (hy : Rd w A ys) (hyl : ys.length = m * sz) (h1 : ∀ u ∈ ys, u.oneCell' = true)
    (h63 : n + m ≤ maxLen) (hby : (n + m) * by' ≤ 140737488355328) (hbase : base ≤ w.heap.size)
    (h : ∀ v' w', w'.ownsRow base e sz v' (n + m) (xs ++ ys) → w.grownBy w' v.ownBlock → K (a.put o.dst v') w') : o.wp P a w K Q := by
  obtain ⟨i0, hi, hz0, hz1, hz2⟩ := info_g hinf
  cases A with
  | some ad =>
    exact wp_append_own w s x t ho base e i0 z sz by' ht hi hz0 hz1 hz2 hzs hsz v n xs hs hown ad m c ys hx hyl (rd_cells hy) h1 h63 hby hbase (fun v' w' a b _ => h v' w' a b)
  | none =>
    have h0 : ys = [] := by
      cases ys with
      | nil => rfl
      | cons u r => obtain ⟨b, off, e', _⟩ := hy 0 u rfl; cases e'
    subst h0
    have hm : m = 0 := by
      have h2 : m * sz = 0 := by simpa using hyl.symm
      rcases Nat.mul_eq_zero.mp h2 with h2 | h2
      · exact h2
      · omega
    subst hm
    have hrun := run_append_none (P := P) base t o.type e i0 sz ht hi v n c xs hown
    unfold Oper.wp execOp
    simp only [ho, resolve, invoke, builtin, Sem.run_bind, Sem.run_pure, Result.andThen_ok, List.map_toArray, List.map_cons, List.map_nil, hs, hx, List.length_nil, hrun]
    exact (h v w (by simpa using hown) ⟨rfl, rfl, rfl, Nat.le_refl _, fun _ _ _ => rfl⟩)
theorem step_append_g {P : Program} {w : World} {ops : Array Oper} {o : Oper} {a : Act} {K : Act → World → Prop} {Q : Exit → Act → World → Prop} {E : Prop} (hgd : o.guard = none) (s x : Operand) (t e : TypeId) (z : Value) (sz by' : Nat)
    (hinf : (P.info? e).map (fun i => (i.zero, i.size, i.bytes)) = some (some z, sz, by')) (ht : P.underlying t = some (.slice e)) (hzs : z.cells.size = sz) (hsz : 0 < sz)
    (ho : o.op = .call { callee := .builtin .append, args := #[s, x], argTypes := #[t, t] })
    (base : Nat) (v : Value) (n : Nat) (xs : List Value) (hs : a.eval s = v) (hown : w.ownsRow base e sz v n xs)
    (A : Option Addr) (m c : Nat) (ys : List Value) (hx : a.eval x = .slice A m c) (hy : Rd w A ys) (hyl : ys.length = m * sz) (h1 : ∀ u ∈ ys, u.oneCell' = true)
    (h63 : n + m ≤ maxLen) (hby : (n + m) * by' ≤ 140737488355328) (hbase : base ≤ w.heap.size)
    (h : ∀ v' w', w'.ownsRow base e sz v' (n + m) (xs ++ ys) → w.grownBy w' v.ownBlock → K (a.put o.dst v') w') : if Region.wanted o (yielded ops a.tmps) = true then Oper.wp P o a w K Q else E := by
  have hw : Region.wanted o (yielded ops a.tmps) = true := by simp [Region.wanted, hgd]
  rw [if_pos hw]
  exact wp_append_g s x t e z sz by' hinf ht hzs hsz ho base v n xs hs hown A m c ys hx hy hyl h1 h63 hby hbase h
theorem undrewMv {S : Nat → Prop} {w w' : World} (m : Mv S w.drew w') : Mv S w w' := ⟨m.os, m.tape, m.output, m.size, m.block⟩
theorem ungrown {w w' : World} {row : Option Nat} (h : w.drew.grownBy w' row) : w.grownBy w' row := by
  obtain ⟨a, b, c, d, e⟩ := h
  exact ⟨a, b, c, d, e⟩
theorem spC_one (l : Spans) : ∀ u ∈ spC l, u.oneCell' = true := by
  intro u hu
  unfold spC at hu
  rw [List.mem_flatMap] at hu
  obtain ⟨s, _, hs⟩ := hu
  simp only [List.mem_cons, List.not_mem_nil, or_false] at hs
  rcases hs with rfl | rfl <;> rfl
theorem atsC_app : ∀ (us : List Value) (L : List Atm) (u : Value) (a : Atm), us.length = L.length → atsC (us ++ [u]) (L ++ [a]) = atsC us L ++ atC u a
  | [], [], u, a, _ => by simp [atsC]
  | x :: us, b :: L, u, a, h => by
    simp only [List.cons_append, atsC, List.append_assoc]
    rw [atsC_app us L u a (by simpa using h)]
  | [], _ :: _, _, _, h => by simp at h
  | _ :: _, [], _, _, h => by simp at h
/-- A part's answer: its tree's part, the atoms behind those that were there. -/
def OutP (p : Nat) (v : Value) (L : List Atm) (w : World) (r : Rs Re) (e : Ending) (w' : World) : Prop :=
  match r with
  | .ok (t, l') => ∃ v' us', e = .returned (partV (compP t L).1) ∧ PIs w' p l' v' us' (compP t L).2 ∧ Mvd p v v' w w'
  | .error f => e = flE f ∧ Mv (PM p v) w w'
theorem OutP.before {p : Nat} {v : Value} {L : List Atm} {w w1 w' : World} {r : Rs Re} {e : Ending} (hb : Below w.heap.size w w1) (h : OutP p v L w1 r e w') : OutP p v L w r e w' := by
  unfold OutP at h ⊢
  split at h
  · obtain ⟨v', us', h1, h2, h3⟩ := h; exact ⟨v', us', h1, h2, (Mvd.of_below hb).trans h3⟩
  · exact ⟨h.1, (Mvd.of_below hb).err h.2⟩
/-- An empty part, where a result will lie. -/
def zP : Array Value := #[.int .u64 0, .int .u64 0, .int .u64 0, .int .u64 0, .int .u64 0, .int .u64 0, .int .u64 0, .int .u64 0, .bool false]
def partL (x : Prt) : List Value := [.int .u64 (wd x.first 0 : Nat), .int .u64 (wd x.first 1 : Nat), .int .u64 (wd x.first 2 : Nat), .int .u64 (wd x.first 3 : Nat), .int .u64 (wd x.last 0 : Nat), .int .u64 (wd x.last 1 : Nat), .int .u64 (wd x.last 2 : Nat), .int .u64 (wd x.last 3 : Nat), .bool x.empty]
theorem partL_one (x : Prt) : ∀ v ∈ partL x, v.oneCell' = true := one9
theorem spl9 (x : Prt) {cs : Array Value} (h : cs.size = 9) : spl cs 0 (partL x) = (partL x).toArray := by
  unfold spl splice
  rw [List.take_zero, List.nil_append, Nat.zero_add, List.drop_eq_nil_of_le (by rw [Array.length_toList, h]; exact Nat.le_refl 9), List.append_nil]
theorem part_cells {w : World} {g : Nat} {x : Prt} (h : w.heap[g]? = some (.cells (partL x).toArray 186 (0, 0))) : ∀ (j : Nat) (u : Value), (partL x)[j]? = some u → w.cell? ⟨g, 0 + j, none⟩ = some u := fun j u hu => by
  rw [Nat.zero_add, cell_blk h]; simpa using hu
structure Zs (w W : World) : Prop where
  sz : W.heap.size = w.heap.size + 1
  below : Below w.heap.size w W
  z : W.heap[w.heap.size]? = some (.cells zP 186 (0, 0))
theorem Zs.mk' (w : World) : Zs w (w.alloc (.cells zP 186)) := ⟨by simp, (Below.refl _ w).alloc (Nat.le_refl _) _, heap_alloc_new _ _⟩
theorem Zs.pis {w W : World} (hz : Zs w W) {p : Nat} {l : List Pc} {v : Value} {us : List Value} {L : List Atm} (h : PIs w p l v us L) : PIs W p l v us L := h.below hz.below
theorem Zs.at' {w W w2 : World} (hz : Zs w W) {p : Nat} {l : List Pc} {v : Value} {us : List Value} {L : List Atm} (h : PIs w p l v us L) (m : Mv (PM p v) W w2) : w2.heap[w.heap.size]? = some (.cells zP 186 (0, 0)) := by
  refine (m.block _ (by have := hz.sz; omega) ?_).trans hz.z
  rintro (e | e)
  · have := h.lt; omega
  · have := (h.at'.row.lt _ e).2; omega
theorem Zs.err {w W w2 : World} (hz : Zs w W) {S : Nat → Prop} (m : Mv S W w2) : Mv S w w2 := (Mv.of_below hz.below S).trans m fun _ _ h => h
/-- The parser stays where a block turns that holds parts. -/
theorem PIs.store {w2 w3 : World} {p : Nat} {l : List Pc} {v : Value} {us : List Value} {L : List Atm} {g : Nat} {cs : Array Value} (h : PIs w2 p l v us L) (hg : w2.heap[g]? = some (.cells cs 186 (0, 0))) (hp : p < g) (m : Mv (fun k => k = g) w2 w3) : PIs w3 p l v us L :=
  h.keep m (fun k hk e => by omega) (fun k hk e => by subst e; exact own_blk h.at'.row hg (by decide) hk) (fun i u a hu ha k hk e => by subst e; exact own_blk (h.at'.sp i u a hu ha) hg (by decide) hk)
theorem Zs.fin {w W w2 w3 : World} (hz : Zs w W) {p : Nat} {l l' : List Pc} {v v' : Value} {us us' : List Value} {L : List Atm} {t : Re} (h : PIs w p l v us L) (h2 : PIs w2 p l' v' us' (compP t L).2) (m2 : Mvd p v v' W w2) (m3 : Mv (fun k => k = w.heap.size) w2 w3) :
    OutP p v L w (.ok (t, l')) (.returned (.agg (partL (compP t L).1).toArray)) w3 :=
  ⟨v', us', rfl, h2.store (hz.at' h m2.mv) h.lt m3, (hz.err m2.mv).trans m3 fun i hi e => by omega, fun k hk => by
    rcases m2.own k hk with e | e
    · exact .inl e
    · exact .inr (by have := hz.sz; omega)⟩
end
section
set_option linter.unusedVariables false
set_option linter.unusedSimpArgs false
open Go.RowKit
section
set_option maxHeartbeats 1600000
set_option maxRecDepth 100000
theorem cell_below {w w' : World} (hb : RowKit.Below w.heap.size w w') {a : Addr} {x : Value} (h : w.cell? a = some x) : w'.cell? a = w.cell? a := by
  have hlt : a.block < w.heap.size := by
    unfold World.cell? at h
    cases hq : w.heap[a.block]? with
    | none => simp [hq] at h
    | some o => exact blk_lt hq
  unfold World.cell?
  rw [hb.block _ hlt]
theorem cell_mv {S : Nat → Prop} {w w' : World} (hb : Mv S w w') {a : Addr} {x : Value} (h : w.cell? a = some x) (ha : ¬ S a.block) : w'.cell? a = w.cell? a := by
  have hlt : a.block < w.heap.size := by
    unfold World.cell? at h
    cases hq : w.heap[a.block]? with
    | none => simp [hq] at h
    | some o => exact blk_lt hq
  unfold World.cell?
  rw [hb.block _ hlt ha]
theorem below_drew {B : Nat} {w w' : World} (h : RowKit.Below B w w') : RowKit.Below B w w'.drew := ⟨h.os, h.tape, h.output, h.size, h.block⟩
theorem folK_get_len {L : List Atm} {k : Nat} (h : k < L.length) : ∃ a, L[k]? = some a := ⟨L[k], List.getElem?_eq_getElem h⟩
/-- Where an atom's followers lie, in the row of atoms. -/
theorem PIs.nexts {w : World} {p : Nat} {l : List Pc} {v : Value} {us : List Value} {L : List Atm} (h : PIs w p l v us L) {k : Nat} {a : Atm} (ha : L[k]? = some a) :
    ∃ g c cur, v = .slice (some ⟨g, 0, none⟩) L.length c ∧ p < g ∧ g < w.heap.size ∧ w.heap[g]? = some (.cells cur 217 (0, 0)) ∧ L.length ≤ c ∧ ∀ j, j < 4 → w.cell? ⟨g, k * 6 + 2 + j, none⟩ = some (.int .u64 (wd a.next j : Nat)) := by
  have hk := (List.getElem?_eq_some_iff.mp ha).1
  rcases h.at'.row.2 with ⟨e1, e2⟩ | ⟨g, cap, cur, e1, hB, hh, hn, hc, hs, ht⟩
  · omega
  · have ho : v.ownBlock = some g := by rw [e1]; rfl
    obtain ⟨u, hu⟩ : ∃ u, us[k]? = some u := ⟨us[k]'(by rw [h.at'.len]; exact hk), List.getElem?_eq_getElem _⟩
    refine ⟨g, cap, cur, e1, by omega, (h.at'.row.lt g ho).2, hh, hn, fun j hj => ?_⟩
    have := h.at'.row.cells (g := g) ho (k * 6 + 2 + j) (.int .u64 (wd a.next j : Nat)) ?_
    · rwa [add_flat] at this
    · rw [show k * 6 + 2 + j = k * 6 + (2 + j) from by omega, atsC_get us L k u a hu ha (2 + j) (by omega)]
      match j, hj with
      | 0, _ => rfl
      | 1, _ => rfl
      | 2, _ => rfl
      | 3, _ => rfl
theorem PIs.followed {w w' : World} {p : Nat} {l : List Pc} {v : Value} {us : List Value} {L : List Atm} (h : PIs w p l v us L) {k : Nat} {a : Atm} (ha : L[k]? = some a) {g n c : Nat} (hv : v = .slice (some ⟨g, 0, none⟩) n c) (x : Nat) (hb : Below w.heap.size w w') :
    PIs ((((w'.setCell ⟨g, k * 6 + 2, none⟩ (.int .u64 (wd x 0 : Nat))).setCell ⟨g, k * 6 + 2 + 1, none⟩ (.int .u64 (wd x 1 : Nat))).setCell ⟨g, k * 6 + 2 + 2, none⟩ (.int .u64 (wd x 2 : Nat))).setCell ⟨g, k * 6 + 2 + 3, none⟩ (.int .u64 (wd x 3 : Nat))) p l v us (L.set k { a with next := x }) := by
  have hk := (List.getElem?_eq_some_iff.mp ha).1
  have h' := h.below hb
  subst hv
  have r0 := h'.at'.row
  have hnL : n = L.length := by
    rcases r0.2 with ⟨e, _⟩ | ⟨g', cap, cur, e, _⟩
    · cases e
    · injection e
  subst hnL
  have r4 := own_set (own_set (own_set (own_set r0 (j := k * 6 + 2) (by omega) (.int .u64 (wd x 0 : Nat))) (j := k * 6 + 2 + 1) (by omega) (.int .u64 (wd x 1 : Nat))) (j := k * 6 + 2 + 2) (by omega) (.int .u64 (wd x 2 : Nat))) (j := k * 6 + 2 + 3) (by omega) (.int .u64 (wd x 3 : Nat))
  have hnx : ((((atsC us L).set (k * 6 + 2) (.int .u64 (wd x 0 : Nat))).set (k * 6 + 2 + 1) (.int .u64 (wd x 1 : Nat))).set (k * 6 + 2 + 2) (.int .u64 (wd x 2 : Nat))).set (k * 6 + 2 + 3) (.int .u64 (wd x 3 : Nat)) = atsC us (L.set k { a with next := x }) := atsC_next us L k a x h'.at'.len ha
  rw [hnx] at r4
  have m : Mv (fun k => k = g) w' _ := ((((Mv.refl (fun k => k = g) w').setCell (p := ⟨g, k * 6 + 2, none⟩) (fun _ => rfl) (.int .u64 (wd x 0 : Nat))).setCell (p := ⟨g, k * 6 + 2 + 1, none⟩) (fun _ => rfl) (.int .u64 (wd x 1 : Nat))).setCell (p := ⟨g, k * 6 + 2 + 2, none⟩) (fun _ => rfl) (.int .u64 (wd x 2 : Nat))).setCell (p := ⟨g, k * 6 + 2 + 3, none⟩) (fun _ => rfl) (.int .u64 (wd x 3 : Nat))
  have hpg : p + 1 ≤ g := (r0.lt g rfl).1
  refine h'.turn m (fun i hi e => by omega) (fun y hy => (m.block p (blk_lt hy) (by omega)).trans hy) ⟨by simp [h'.at'.len], by simpa using r4, fun i u a' hu ha' => ?_⟩ (by simpa using h'.few)
  have ⟨b, hb1, hb2⟩ : ∃ b, L[i]? = some b ∧ b.sp = a'.sp := by
    rw [List.getElem?_set] at ha'
    split at ha'
    · rename_i e; subst e
      injection ha' with ha'
      exact ⟨a, ha, by rw [← ha']⟩
    · exact ⟨a', ha', rfl⟩
  rw [← hb2]
  refine own_mv (h'.at'.sp i u b hu hb1) m fun j hj e => ?_
  subst e
  exact h'.ne_sp hu hb1 hj rfl
theorem follow_any (p : Nat) (l : List Pc) (v : Value) (us : List Value) (L : List Atm) (these nx : Nat) (w : World) (h : PIs w p l v us L) :
    Calls Tryz.prog 183 #[.pointer (some ⟨p, 0, none⟩), setV these, setV nx] w fun e w' => e = .returned (.tuple #[]) ∧ PIs w' p l v us (followP these nx L) ∧ Mv (fun k => v.ownBlock = some k) w w' := by
  obtain ⟨W, hW⟩ : ∃ W, W = (w.alloc (.cells #[.int .u64 (wd these 0 : Nat), .int .u64 (wd these 1 : Nat), .int .u64 (wd these 2 : Nat), .int .u64 (wd these 3 : Nat)] 184)).alloc (.cells #[.int .u64 (wd nx 0 : Nat), .int .u64 (wd nx 1 : Nat), .int .u64 (wd nx 2 : Nat), .int .u64 (wd nx 3 : Nat)] 184) := ⟨_, rfl⟩
  have hb : RowKit.Below w.heap.size w W := by rw [hW]; exact ((RowKit.Below.refl _ w).alloc (Nat.le_refl _) _).alloc (by simp) _
  have h2 : W.heap[w.heap.size]? = some (.cells #[.int .u64 (wd these 0 : Nat), .int .u64 (wd these 1 : Nat), .int .u64 (wd these 2 : Nat), .int .u64 (wd these 3 : Nat)] 184 (0, 0)) := by
    rw [hW, Below.heap_alloc _ _ _ (by simp)]; exact heap_alloc_new _ _
  have h3 : W.heap[w.heap.size + 1]? = some (.cells #[.int .u64 (wd nx 0 : Nat), .int .u64 (wd nx 1 : Nat), .int .u64 (wd nx 2 : Nat), .int .u64 (wd nx 3 : Nat)] 184 (0, 0)) := by
    rw [hW]; exact heap_alloc_new2 _ _ _
  have hown : ∀ k, v.ownBlock = some k → k < w.heap.size := fun k hk => (h.at'.row.lt k hk).2
  have hs : ∀ W', Mv (fun k => v.ownBlock = some k) W W' → W'.cell? ⟨w.heap.size, 0, none⟩ = some (.int .u64 (wd these 0 : Nat)) ∧ W'.cell? ⟨w.heap.size, 1, none⟩ = some (.int .u64 (wd these 1 : Nat)) ∧ W'.cell? ⟨w.heap.size, 2, none⟩ = some (.int .u64 (wd these 2 : Nat)) ∧ W'.cell? ⟨w.heap.size, 3, none⟩ = some (.int .u64 (wd these 3 : Nat)) ∧ W'.cell? ⟨w.heap.size + 1, 0, none⟩ = some (.int .u64 (wd nx 0 : Nat)) ∧ W'.cell? ⟨w.heap.size + 1, 1, none⟩ = some (.int .u64 (wd nx 1 : Nat)) ∧ W'.cell? ⟨w.heap.size + 1, 2, none⟩ = some (.int .u64 (wd nx 2 : Nat)) ∧ W'.cell? ⟨w.heap.size + 1, 3, none⟩ = some (.int .u64 (wd nx 3 : Nat)) := fun W' hb' => by
    have k2 := (hb'.block _ (blk_lt h2) (fun e => by have := hown _ e; omega)).trans h2
    have k3 := (hb'.block _ (blk_lt h3) (fun e => by have := hown _ e; omega)).trans h3
    refine ⟨?_, ?_, ?_, ?_, ?_, ?_, ?_, ?_⟩ <;> first | (rw [cell_blk k2]; rfl) | (rw [cell_blk k3]; rfl)
  have hlen : L.length ≤ 256 := by
    have := h.few
    have : 0 < l.length := List.length_pos_iff.2 h.ok.ne
    omega
  have h1 := h.below hb
  have HOWN := Lib.hid hown
  have HB := Lib.hid hb; have HS := Lib.hid hs; have HW := Lib.hid hW; have H1 := Lib.hid (show PIs W p l v us (folK these nx 0 L) by rw [folK_zero]; exact h1)
  have HFIN := Lib.hid (show ∀ W', PIs W' p l v us (folK these nx L.length L) → PIs W' p l v us (followP these nx L) from fun W' k => by rwa [folK_all] at k)
  have HMV := Lib.hid (show ∀ W', Mv (fun k => v.ownBlock = some k) W W' → Mv (fun k => v.ownBlock = some k) w W' from fun W' m => (Mv.of_below hb _).trans m fun _ _ h => h)
  obtain ⟨Av, cv, hv, -, -, -⟩ := own_rdg h.at'.row
  obtain ⟨pb, off, c, hbx, -, -, -, -⟩ := h.box
  have b1 := cell_blk hbx 1
  simp only [List.getElem?_toArray, List.getElem?_cons_succ, List.getElem?_cons_zero] at b1
  rw [hv] at b1
  have HV := Lib.hid hv
  have hplt := h.lt
  have hplt1 : p ≠ w.heap.size := by omega
  have hplt2 : p ≠ w.heap.size + 1 := by omega
  have HP := Lib.hid (show ∀ W' A, PIs W' p l v us A → W'.cell? ⟨p, 1, none⟩ = some (.slice Av L.length cv) from fun W' A k => by
    obtain ⟨pb, off, c, hbx, -, -, -, -⟩ := k.box
    have b1 := cell_blk hbx 1
    simp only [List.getElem?_toArray, List.getElem?_cons_succ, List.getElem?_cons_zero] at b1
    rw [b1, hv])
  obtain ⟨n, hn⟩ : ∃ n, n = L.length := ⟨_, rfl⟩
  rw [← hn] at b1 HFIN HP HV hlen
  have HN := Lib.hid hn
  clear hb h2 h3 hs hW h1 hv hbx h hown hn
  unfold setV setL
  go_enter Tryz.func183, Tryz.ntmps183
  go_wp2_with fail
  rw [← HW.out]
  trace_state
  go_loopw [12] (fun s12 wr => ∃ (k : Nat), s12 = .int .i64 k ∧ k ≤ n ∧ Aside (PIs wr p l v us (folK these nx k L)) ∧ Aside (Mv (fun k => v.ownBlock = some k) W wr)) (fun s12 _ => n - (intOf s12).toNat)
  case atStart => exact ⟨0, rfl, by omega, H1.out, Mv.refl _ _⟩
  case round =>
    obtain ⟨k, rfl, hk, HK, HM⟩ := hrel
    have hpc := HP.out _ _ HK.out
    by_cases hlt : k < n
    · have k1 : (k : Int) < (n : Int) := by omega
      obtain ⟨c0, c1, c2, c3, d0, d1, d2, d3⟩ := HS.out _ HM.out
      obtain ⟨a, ha⟩ := folK_get_len (L := L) (k := k) (by have := HN.out; omega)
      have hfa := folK_at these nx ha
      have hst := folK_step these nx ha
      have HH := Lib.hid (has_lit these k (by omega) wr)
      have hs0 : these.testBit k = false → folK these nx (k + 1) L = folK these nx k L := folK_same these nx ha
      have HST := Lib.hid hst
      cases hbit : these.testBit k with
      | false =>
        rw [hbit] at HH
        have HE := Lib.hid (hs0 hbit)
        clear hst hs0 hfa ha d0 d1 d2 d3
        go_wp2_with fail
        refine HH.out.mono ?_
        rintro e w1 ⟨rfl, hb1⟩
        go_wp2
        go_roundw
        case rel => exact ⟨k + 1, by go_num, by omega, (show Aside _ from by rw [HE.out]; exact HK.out.below hb1), (show Aside _ from HM.out.trans (Mv.of_below hb1 _) fun _ _ h => h)⟩
        case measure => simp [intOf]; omega
      | true =>
        rw [hbit] at HH
        rw [hbit, if_pos rfl] at hst
        obtain ⟨g, c, cur, hv, hpg, hgw, hgb, hnc, hnx⟩ := HK.out.nexts hfa
        have e0 := hnx 0 (by omega)
        have e1 := hnx 1 (by omega)
        have e2 := hnx 2 (by omega)
        have e3 := hnx 3 (by omega)
        simp only [Nat.add_zero] at e0
        have HGW := Lib.hid (show g < w.heap.size from HOWN.out g (by rw [hv]; rfl))
        have hpc2 : wr.cell? ⟨p, 1, none⟩ = some (.slice (some ⟨g, 0, none⟩) n c) := by rw [hpc, ← HV.out, hv, HN.out, folK_len these nx k L (by have := HN.out; omega)]
        have HS2 := Lib.hid (show ∀ W', RowKit.Below wr.heap.size wr W' → (W'.cell? ⟨p, 1, none⟩ = some (.slice (some ⟨g, 0, none⟩) n c) ∧ W'.cell? ⟨g, k * 6 + 2, none⟩ = some (.int .u64 (wd a.next 0 : Nat)) ∧ W'.cell? ⟨g, k * 6 + 2 + 1, none⟩ = some (.int .u64 (wd a.next 1 : Nat)) ∧ W'.cell? ⟨g, k * 6 + 2 + 2, none⟩ = some (.int .u64 (wd a.next 2 : Nat)) ∧ W'.cell? ⟨g, k * 6 + 2 + 3, none⟩ = some (.int .u64 (wd a.next 3 : Nat)) ∧ W'.cell? ⟨w.heap.size + 1, 0, none⟩ = some (.int .u64 (wd nx 0 : Nat)) ∧ W'.cell? ⟨w.heap.size + 1, 1, none⟩ = some (.int .u64 (wd nx 1 : Nat)) ∧ W'.cell? ⟨w.heap.size + 1, 2, none⟩ = some (.int .u64 (wd nx 2 : Nat)) ∧ W'.cell? ⟨w.heap.size + 1, 3, none⟩ = some (.int .u64 (wd nx 3 : Nat)) ∧ ∀ i, W'.frozen? ⟨g, i, none⟩ = false) from fun W' hb' => by
          have hM := HM.out.trans (Mv.of_below hb' _) fun _ _ h => h
          obtain ⟨-, -, -, -, q0, q1, q2, q3⟩ := HS.out _ hM
          have hcc : ∀ b o x, wr.cell? ⟨b, o, none⟩ = some x → W'.cell? ⟨b, o, none⟩ = some x := fun b o x hx => by rw [cell_below hb' hx]; exact hx
          exact ⟨hcc _ _ _ hpc2, hcc _ _ _ e0, hcc _ _ _ e1, hcc _ _ _ e2, hcc _ _ _ e3, q0, q1, q2, q3, fun i => free_blk ((hb'.block _ hgw).trans hgb) i⟩)
        have hpgne : p ≠ g := by omega
        have HQS := Lib.hid (show ∀ W', Qs g wr W' → (W'.cell? ⟨p, 1, none⟩ = some (.slice (some ⟨g, 0, none⟩) n c) ∧ W'.cell? ⟨w.heap.size + 1, 0, none⟩ = some (.int .u64 (wd nx 0 : Nat)) ∧ W'.cell? ⟨w.heap.size + 1, 1, none⟩ = some (.int .u64 (wd nx 1 : Nat)) ∧ W'.cell? ⟨w.heap.size + 1, 2, none⟩ = some (.int .u64 (wd nx 2 : Nat)) ∧ W'.cell? ⟨w.heap.size + 1, 3, none⟩ = some (.int .u64 (wd nx 3 : Nat))) from fun W' hb' => by
          have hcc : ∀ b o x, b ≠ g → wr.cell? ⟨b, o, none⟩ = some x → W'.cell? ⟨b, o, none⟩ = some x := fun b o x hb hx => by rw [cell_mv hb' hx hb]; exact hx
          have hne : w.heap.size + 1 ≠ g := by have := HGW.out; omega
          exact ⟨hcc _ _ _ hpgne hpc2, hcc _ _ _ hne d0, hcc _ _ _ hne d1, hcc _ _ _ hne d2, hcc _ _ _ hne d3⟩)
        have HFOL := Lib.hid (show ∀ W', RowKit.Below wr.heap.size wr W' → PIs ((((W'.setCell ⟨g, k * 6 + 2, none⟩ (.int .u64 (wd (a.next ||| nx) 0 : Nat))).setCell ⟨g, k * 6 + 2 + 1, none⟩ (.int .u64 (wd (a.next ||| nx) 1 : Nat))).setCell ⟨g, k * 6 + 2 + 2, none⟩ (.int .u64 (wd (a.next ||| nx) 2 : Nat))).setCell ⟨g, k * 6 + 2 + 3, none⟩ (.int .u64 (wd (a.next ||| nx) 3 : Nat))) p l v us (folK these nx (k + 1) L) from fun W' hb' => by rw [hst]; exact HK.out.followed hfa hv (a.next ||| nx) hb')
        have HMM := Lib.hid (show ∀ W', RowKit.Below wr.heap.size wr W' → Mv (fun k => v.ownBlock = some k) W ((((W'.setCell ⟨g, k * 6 + 2, none⟩ (.int .u64 (wd (a.next ||| nx) 0 : Nat))).setCell ⟨g, k * 6 + 2 + 1, none⟩ (.int .u64 (wd (a.next ||| nx) 1 : Nat))).setCell ⟨g, k * 6 + 2 + 2, none⟩ (.int .u64 (wd (a.next ||| nx) 2 : Nat))).setCell ⟨g, k * 6 + 2 + 3, none⟩ (.int .u64 (wd (a.next ||| nx) 3 : Nat))) from fun W' hb' => by
          have hM := HM.out.trans (Mv.of_below hb' _) fun _ _ h => h
          have ho : v.ownBlock = some g := by rw [hv]; rfl
          exact (((hM.setCell (fun _ => ho) _).setCell (fun _ => ho) _).setCell (fun _ => ho) _).setCell (fun _ => ho) _)
        have g7 : (0 : Int) ≤ (k : Int) := by omega
        clear hst hs0 hfa ha hv hpg hgw hgb hnc hnx e0 e1 e2 e3 hpc hpc2 HST HP hpgne
        generalize a.next = x at HS2 HFOL HMM
        clear d0 d1 d2 d3
        go_wp2_with fail
        refine HH.out.mono ?_
        rintro e w1 ⟨rfl, hb1⟩
        have HB1 := Lib.hid hb1
        have HMV2 := Lib.hid hb1
        clear hb1
        have hq2 := HS2.out _ HMV2.out
        obtain ⟨x0, x1, x2, x3, x4, x5, x6, x7, x8, xf⟩ := hq2
        have HQ := Lib.hid (show Qs g wr w1 from Mv.of_below HMV2.out _)
        have r0 : ∀ w', Qs g wr w' → w'.cell? ⟨p, 1, none⟩ = some (.slice (some ⟨g, 0, none⟩) n c) := fun w' h => (HQS.out _ h).1
        have r1 : ∀ w', Qs g wr w' → w'.cell? ⟨w.heap.size + 1, 0, none⟩ = some (.int .u64 (wd nx 0 : Nat)) := fun w' h => (HQS.out _ h).2.1
        have r2 : ∀ w', Qs g wr w' → w'.cell? ⟨w.heap.size + 1, 1, none⟩ = some (.int .u64 (wd nx 1 : Nat)) := fun w' h => (HQS.out _ h).2.2.1
        have r3 : ∀ w', Qs g wr w' → w'.cell? ⟨w.heap.size + 1, 2, none⟩ = some (.int .u64 (wd nx 2 : Nat)) := fun w' h => (HQS.out _ h).2.2.2.1
        have r4 : ∀ w', Qs g wr w' → w'.cell? ⟨w.heap.size + 1, 3, none⟩ = some (.int .u64 (wd nx 3 : Nat)) := fun w' h => (HQS.out _ h).2.2.2.2
        go_wp2_with fail
        go_region_law (first
          | (go_simp; go_at_call 161; go_must ((with_reducible refine (with_lit _ _ _).mono ?_); rintro e wq ⟨rfl, hbq⟩; (try (have hq1 := undrew hbq; clear hbq; have hbq := hq1; clear hq1)); have hq1 := HMV2.out.trans (hbq.mono HMV2.out.size); have HMV2 := Lib.hid hq1; have HQ := Lib.hid (show Qs g wr wq from Mv.of_below hq1 _); have hq2 := HS2.out _ hq1; clear hq1 hbq; obtain ⟨y0, y1, y2, y3, y4, y5, y6, y7, y8, yf⟩ := hq2))
          | fail)
        all_goals
          go_wp2
          go_roundw
          case rel => exact ⟨k + 1, by go_num, by omega, (show Aside _ from HFOL.out _ HMV2.out), (show Aside _ from HMM.out _ HMV2.out)⟩
          case measure => simp [intOf]; omega
    · obtain rfl : k = n := by omega
      have hfin := HFIN.out _ HK.out
      have HF := Lib.hid hfin
      clear hfin
      go_wp2
      go_end0
      exact ⟨rfl, HF.out, HMV.out _ HM.out⟩
end
end
section
set_option linter.unusedVariables false
set_option linter.unusedSimpArgs false
open Go.RowKit
section
set_option maxHeartbeats 1600000
set_option maxRecDepth 100000
theorem only_lit (i : Nat) (hi : i < 256) (w : World) : Calls Tryz.prog 193 #[.int .i64 (i : Nat)] w fun e w' => e = .returned (.agg #[.int .u64 (wd (2 ^ i) 0 : Nat), .int .u64 (wd (2 ^ i) 1 : Nat), .int .u64 (wd (2 ^ i) 2 : Nat), .int .u64 (wd (2 ^ i) 3 : Nat)]) ∧ RowKit.Below w.heap.size w w' := only_any i hi w
theorem AtIs.snoc {w w' : World} {p : Nat} {v v' u : Value} {us : List Value} {L : List Atm} {a : Atm} {S : Nat → Prop} (h : AtIs w (p + 1) v us L) (m : Mv S w w') (hS : ∀ (i : Nat) (u : Value) (a : Atm), us[i]? = some u → L[i]? = some a → ∀ k, u.ownBlock = some k → ¬ S k)
    (hr : w'.ownsRow (p + 1) 217 6 v' (L.length + 1) (atsC us L ++ atC u a)) (hu : w'.ownsRow (p + 1) 234 2 u a.sp.length (spC a.sp)) : AtIs w' (p + 1) v' (us ++ [u]) (L ++ [a]) := by
  refine ⟨by simp [h.len], by rw [atsC_app _ _ _ _ h.len]; simpa using hr, fun i u' a' hu' ha' => ?_⟩
  by_cases hi : i < L.length
  · rw [List.getElem?_append_left (by rw [h.len]; exact hi)] at hu'
    rw [List.getElem?_append_left hi] at ha'
    exact own_mv (h.sp i u' a' hu' ha') m (hS i u' a' hu' ha')
  · have hi2 : i = L.length := by
      have := (List.getElem?_eq_some_iff.mp ha').1
      simp at this; omega
    subst hi2
    rw [List.getElem?_append_right (by rw [h.len]; omega), h.len, Nat.sub_self] at hu'
    rw [List.getElem?_append_right (by omega), Nat.sub_self] at ha'
    simp at hu' ha'
    subst hu'; subst ha'
    exact hu
theorem atC_zero (u : Value) (sp : Spans) (neg : Bool) : atC u ⟨sp, neg, 0⟩ = [u, .bool neg, .int .u64 0, .int .u64 0, .int .u64 0, .int .u64 0] := by simp [atC, wd]
theorem add_any (p : Nat) (l : List Pc) (v : Value) (us : List Value) (L : List Atm) (u : Value) (sp : Spans) (neg : Bool) (w : World) (h : PIs w p l v us L) (hu : w.ownsRow (p + 1) 234 2 u sp.length (spC sp)) (hf : L.length + l.length ≤ 256) :
    Calls Tryz.prog 188 #[.pointer (some ⟨p, 0, none⟩), .agg #[u, .bool neg, .int .u64 0, .int .u64 0, .int .u64 0, .int .u64 0]] w (OutP p v L w (.ok (.set sp neg, l))) := by
  obtain ⟨Au, cu, rfl, -, -, -⟩ := own_rdg hu
  obtain ⟨W0, hW0⟩ : ∃ W0, W0 = w.alloc (.cells #[.slice Au sp.length cu, .bool neg, .int .u64 0, .int .u64 0, .int .u64 0, .int .u64 0] 217) := ⟨_, rfl⟩
  have hb0 : RowKit.Below w.heap.size w W0 := by rw [hW0]; exact (RowKit.Below.refl _ w).alloc (Nat.le_refl _) _
  have h0 := h.below hb0
  have hu0 : W0.ownsRow (p + 1) 234 2 (.slice Au sp.length cu) sp.length (spC sp) := own_mv (S := fun _ => False) hu (Mv.of_below hb0 _) fun _ _ f => f
  have hs0 : W0.heap.size = w.heap.size + 1 := by rw [hW0]; simp
  have hone0 : W0.heap[w.heap.size]? = some (.cells #[.slice Au sp.length cu, .bool neg, .int .u64 0, .int .u64 0, .int .u64 0, .int .u64 0] 217 (0, 0)) := by rw [hW0]; exact heap_alloc_new _ _
  obtain ⟨W, hW⟩ : ∃ W, W = W0.alloc (.cells #[.int .u64 0, .int .u64 0, .int .u64 0, .int .u64 0, .int .u64 0, .int .u64 0, .int .u64 0, .int .u64 0, .bool false] 186) := ⟨_, rfl⟩
  have hz : Zs W0 W := by rw [hW]; exact Zs.mk' W0
  have h1 := hz.pis h0
  have hu1 : W.ownsRow (p + 1) 234 2 (.slice Au sp.length cu) sp.length (spC sp) := own_mv (S := fun _ => False) hu0 (Mv.of_below hz.below _) fun _ _ f => f
  obtain ⟨pb, off, c, hb, hp, hlc, hc, hr⟩ := h1.box
  have b1 := cell_blk hb 1
  simp only [List.getElem?_toArray, List.getElem?_cons_succ, List.getElem?_cons_zero] at b1
  have hone1 : W.heap[w.heap.size]? = some (.cells #[.slice Au sp.length cu, .bool neg, .int .u64 0, .int .u64 0, .int .u64 0, .int .u64 0] 217 (0, 0)) := (hz.below.block _ (blk_lt hone0)).trans hone0
  have o0 := cell_blk hone1 0
  have o1 := cell_blk hone1 1
  have o2 := cell_blk hone1 2
  have o3 := cell_blk hone1 3
  have o4 := cell_blk hone1 4
  have o5 := cell_blk hone1 5
  simp only [List.getElem?_toArray, List.getElem?_cons_succ, List.getElem?_cons_zero] at o0 o1 o2 o3 o4 o5
  have hn : L.length < 256 := by
    have : 0 < l.length := List.length_pos_iff.2 h.ok.ne
    omega
  have hl1 : (L ++ [(⟨sp, neg, 0⟩ : Atm)]).length + l.length ≤ 257 := by simp; omega
  have hone : ∀ x ∈ ([.slice Au sp.length cu, .bool neg, .int .u64 0, .int .u64 0, .int .u64 0, .int .u64 0] : List Value), x.oneCell' = true := by
    intro x hx
    simp only [List.mem_cons, List.not_mem_nil, or_false] at hx
    rcases hx with rfl | rfl | rfl | rfl | rfl | rfl <;> rfl
  obtain ⟨i0, hi, hz0, hz1, hz2⟩ := info_g infoAtom
  have HONE := Lib.hid hone
  have HO := Lib.hid (fun W => only_lit L.length hn W)
  have hpw : p < W.heap.size := h1.lt
  have hgo : ∀ k, v.ownBlock = some k → k < w.heap.size := fun k hk => (h.at'.row.lt k hk).2
  -- the atoms behind the append
  have hkey : ∀ (w1 : World) (g cap : Nat), w1.ownsRow (p + 1) 217 6 (.slice (some ⟨g, 0, none⟩) (L.length + 1) cap) (L.length + 1) (atsC us L ++ [.slice Au sp.length cu, .bool neg, .int .u64 0, .int .u64 0, .int .u64 0, .int .u64 0]) → Mv (fun k => v.ownBlock = some k) W w1 → (v.ownBlock = some g ∨ W.heap.size ≤ g) →
      w1.heap[p]? = some (.cells #[.slice (some ⟨pb, off, none⟩) l.length c, v] 211 (0, 0)) ∧ w1.heap[W0.heap.size]? = some (.cells zP 186 (0, 0)) ∧
      PIs (w1.setCell ⟨p, 1, none⟩ (.slice (some ⟨g, 0, none⟩) (L.length + 1) cap)) p l (.slice (some ⟨g, 0, none⟩) (L.length + 1) cap) (us ++ [.slice Au sp.length cu]) (L ++ [⟨sp, neg, 0⟩]) ∧ Mvd p v (.slice (some ⟨g, 0, none⟩) (L.length + 1) cap) W (w1.setCell ⟨p, 1, none⟩ (.slice (some ⟨g, 0, none⟩) (L.length + 1) cap)) := fun w1 g cap hown hm hg => by
    rw [← atC_zero (.slice Au sp.length cu) sp neg] at hown
    have hpo : v.ownBlock ≠ some p := own_blk h1.at'.row hb (by decide)
    have kp := (hm.block p hpw hpo).trans hb
    have kz : w1.heap[W0.heap.size]? = some (.cells zP 186 (0, 0)) := (hm.block _ (by have := hz.sz; omega) (fun e => by have := hgo _ e; omega)).trans hz.z
    have m2 : Mv (PM p v) W (w1.setCell ⟨p, 1, none⟩ (.slice (some ⟨g, 0, none⟩) (L.length + 1) cap)) := (hm.mono fun _ _ h => .inr h).setCell (fun _ => .inl rfl) _
    have mset : Mv (fun k => k = p) w1 (w1.setCell ⟨p, 1, none⟩ (.slice (some ⟨g, 0, none⟩) (L.length + 1) cap)) := (Mv.refl (fun k => k = p) w1).setCell (p := ⟨p, 1, none⟩) (fun _ => rfl) _
    refine ⟨kp, kz, ?_, m2, fun k hk => ?_⟩
    · refine h1.turn m2 (fun k hk => ?_) (fun x hx => ?_) (AtIs.snoc h1.at' m2 (fun i u a hu' ha' k hk => ?_) (own_mv hown mset fun k hk e => ?_) (own_mv (own_mv hu1 hm fun k hk => ?_) mset fun k hk e => ?_)) hl1
      · rintro (e | e)
        · omega
        · have := (h1.at'.row.lt k e).1; omega
      · have hx2 := (hm.block p hpw hpo).trans hx
        have := set_blk hx2 1 (.slice (some ⟨g, 0, none⟩) (L.length + 1) cap)
        simpa using this
      · rintro (e | e)
        · subst e; have := ((h1.at'.sp i u a hu' ha').lt k hk).1; omega
        · exact h1.ne_sp hu' ha' hk e
      · subst e; have := (hown.lt k hk).1; omega
      · exact own_own hu1 h1.at'.row (by decide) hk
      · subst e; have := (hu1.lt k hk).1; omega
    · have : g = k := by simpa [Value.ownBlock] using hk
      subst this
      exact hg
  have HK := Lib.hid hkey
  have hrow := h1.at'.row
  have hbase : p + 1 ≤ W.heap.size := by omega
  have HF := Lib.hid (fun (w2 w3 : World) (v' : Value) (h2 : PIs w2 p l v' (us ++ [.slice Au sp.length cu]) (compP (.set sp neg) L).2) m2 (m3 : Mv (fun k => k = W0.heap.size) w2 w3) => hz.fin h0 h2 m2 m3)
  have HW := Lib.hid (show W = (w.alloc (.cells #[.slice Au sp.length cu, .bool neg, .int .u64 0, .int .u64 0, .int .u64 0, .int .u64 0] 217)).alloc (.cells #[.int .u64 0, .int .u64 0, .int .u64 0, .int .u64 0, .int .u64 0, .int .u64 0, .int .u64 0, .int .u64 0, .bool false] 186) by rw [hW, hW0])
  have HS0 := Lib.hid hs0
  have HZS := Lib.hid hz.sz
  have HB0 := Lib.hid hb0
  have HPL := Lib.hid h.lt
  clear hW0 hW hb0 h0 hu0 hone0 hz h1 hu1 hb hp hlc hc hr hone1 hone hgo hkey h hu hf hl1 hs0
  obtain ⟨n, hnn⟩ : ∃ n, n = L.length := ⟨_, rfl⟩
  have HN := Lib.hid hnn
  rw [← hnn] at hrow HO HK hn
  clear hnn
  go_enter Tryz.func188, Tryz.ntmps188
  go_wp2_with fail
  rw [← HW.out]
  go_region_law (
    (refine step_append_lies _ rfl (.tmp 10) (.tmp 12) 182 rfl (p + 1) 217 i0 (.agg #[.slice none 0 0, .bool false, .int .u64 0, .int .u64 0, .int .u64 0, .int .u64 0]) 6 64 Tryz.underlying182 hi hz0 hz1 hz2 rfl (by decide) v n (atsC us L) rfl (own_mv (S := fun _ => False) hrow (by repeat (first | exact Mv.refl _ W | refine Mv.alloc ?_ _ | refine Mv.drew ?_)) fun _ _ f => f) ⟨W.heap.size, 0, none⟩ 1 1 [.slice Au sp.length cu, .bool neg, .int .u64 0, .int .u64 0, .int .u64 0, .int .u64 0] rfl rfl (World.news_of_block (by first | exact heap_alloc_new _ _ | exact heap_alloc_new W.drew _ | exact heap_alloc_new W _)) HONE.out (by omega) (by unfold maxLen; omega) (by omega) (Nat.le_trans hbase (Mv.size (S := fun _ => False) (by repeat (first | exact Mv.refl _ W | refine Mv.alloc ?_ _ | refine Mv.drew ?_)))) _ rfl ?_
     intro g cap w1 hown hgrow hg hlt
     have hmv : Mv (fun k => v.ownBlock = some k) W w1 := Mv.grown (w1 := _) (by repeat (first | exact Mv.refl _ W | refine Mv.alloc ?_ _ | refine Mv.drew ?_)) hgrow (fun k _ h => h)
     obtain ⟨kp, kz, hP, hM⟩ := HK.out w1 g cap hown hmv (hg.imp id fun e => by rw [e]; exact Mv.size (S := fun _ => False) (by repeat (first | exact Mv.refl _ W | refine Mv.alloc ?_ _ | refine Mv.drew ?_)))
     have kp1 := cell_blk kp 1
     have ep1 := free_blk kp 1
     simp only [List.getElem?_toArray, List.getElem?_cons_succ, List.getElem?_cons_zero] at kp1
     have KZ := Lib.hid kz; have HP := Lib.hid hP; have HM := Lib.hid hM; clear kz hP hM kp hown hgrow hg hmv hlt))
  all_goals
    go_wp2_with fail
    obtain ⟨w1s, hw1s⟩ : ∃ x, x = w1.setCell ⟨p, 1, none⟩ (.slice (some ⟨g, 0, none⟩) (n + 1) cap) := ⟨_, rfl⟩
    rw [← hw1s] at HP HM ⊢
    have KZ1 := Lib.hid (show w1s.heap[W0.heap.size]? = some (.cells zP 186 (0, 0)) by rw [hw1s]; exact (((Mv.refl (fun k => k = p) w1).setCell (p := ⟨p, 1, none⟩) (fun _ => rfl) _).block _ (blk_lt KZ.out) (by have := HS0.out; have := HPL.out; omega)).trans KZ.out)
    clear hw1s KZ
    refine (HO.out _).mono ?_
    rintro e w2 ⟨rfl, hb2⟩
    have HZ4 := Lib.hid (show ∀ W', Mv (fun k => w2.heap.size ≤ k) w2 W' → W'.heap[w.heap.size + 1]? = some (.cells zP 186 (0, 0)) ∧ Below w1s.heap.size w1s W' from fun W' m => by
      have k1 := blk_lt KZ1.out
      have k2 := hb2.size
      have e1 := HS0.out
      refine ⟨?_, hb2.trans ((m.belowB (Nat.le_refl _) fun k hk h => by omega).mono k2)⟩
      rw [← e1]
      exact (m.block _ (by omega) (by omega)).trans ((hb2.block _ k1).trans KZ1.out))
    clear hb2 KZ1
    go_wp2_with (first
      | (refine wpList_store_agg (o := ⟨none, _, _, _, _, _⟩) ?_ 186 (.tmp 4) (.tmp 25) ?_ (w.heap.size + 1) 0 (partL ⟨2 ^ n, 2 ^ n, false⟩) ?_ ?_ 186 zP (HZ4.out _ (by repeat (first | exact Mv.refl _ w2 | refine Mv.alloc ?_ _ | refine Mv.setCell ?_ (fun h => absurd h (Nat.lt_irrefl _)) _ | refine Mv.drew ?_))).1 ?_ ?_ ?_ ?_; rfl; rfl; rfl; rfl; kernel_rfl; (show 0 + 9 ≤ 9; decide); exact partL_one _; intro w9 hw9 hm9 hs9; rw [spl9 _ rfl] at hw9)
      | fail)
    refine bodyPost_cell rfl (w.heap.size + 1) 186 (partL ⟨2 ^ n, 2 ^ n, false⟩).toArray rfl hw9 (by kernel_rfl) (by kernel_rfl) rfl ?_
    refine OutP.before HB0.out ?_
    have hN := HN.out
    subst hN
    have fin := fun (W' : World) (m : Mv (fun k => w2.heap.size ≤ k) w2 W') (m9 : Mv (fun k => k = W0.heap.size) W' w9) => HF.out W' w9 _ (HP.out.below (HZ4.out _ m).2) (HM.out.trans (Mvd.of_below (HZ4.out _ m).2)) m9
    rw [← HS0.out] at hm9
    exact fin _ (by repeat (first | exact Mv.refl _ w2 | refine Mv.alloc ?_ _ | refine Mv.setCell ?_ (fun h => absurd h (Nat.lt_irrefl _)) _ | refine Mv.drew ?_)) hm9
end
end
section
set_option linter.unusedVariables false
set_option linter.unusedSimpArgs false
open Go.RowKit
theorem Mvd.then {p : Nat} {v v' : Value} {w w1 w2 : World} (m : Mv (fun k => k = p) w w1) (k : Mvd p v v' w1 w2) : Mvd p v v' w w2 := (Mvd.box m).trans k
section
set_option maxHeartbeats 1600000
set_option maxRecDepth 100000
theorem escape_any (p : Nat) (l : List Pc) (v : Value) (us : List Value) (L : List Atm) (w : World) (h : PIs w p l v us L) (h92 : nowP l = 92) :
    Calls Tryz.prog 187 #[.pointer (some ⟨p, 0, none⟩)] w (OutP p v L w (escapeP l)) := by
  obtain ⟨R, hR⟩ : ∃ R, R = escapeP l := ⟨_, rfl⟩
  rw [← hR]
  unfold escapeP at hR
  have hn1 : nowP l ≠ -1 := by rw [h92]; decide
  obtain ⟨W, hW⟩ : ∃ W, W = w.alloc (.cells #[.int .u64 0, .int .u64 0, .int .u64 0, .int .u64 0, .int .u64 0, .int .u64 0, .int .u64 0, .int .u64 0, .bool false] 186) := ⟨_, rfl⟩
  have hz : Zs w W := by rw [hW]; exact Zs.mk' w
  have h1 := hz.pis h
  have HW := Lib.hid hW; have HZ := Lib.hid hz; have H := Lib.hid h
  clear hW hz
  cases hm : manyL l with
  | some g =>
    rw [hm] at hR
    simp only at hR
    have hshr := (manyL_some h.ok hm).1
    have hf : L.length + l.tail.tail.length ≤ 256 := by have := hshr.lt; have := h.few; omega
    have HM := Lib.hid (many_some p l v us L g W h1 hm)
    have HR := Lib.hid hR
    have HF := Lib.hid hf
    have hlt := h1.lt
    have hne := fun b l c W => ne_nil (some ⟨b, 0, none⟩) l c W
    simp only [Option.isNone_some, Bool.not_false] at hne
    clear hR hm h hshr hf h92 hn1 h1
    go_enter Tryz.func187, Tryz.ntmps187
    go_wp2_with fail
    rw [← HW.out]
    go_wp2_with fail
    refine HM.out.mono ?_
    rintro e w1 ⟨b, n, c, rfl, hn, ho, h1, hm1⟩
    subst hn
    have HA := Lib.hid (add_any p _ v us L _ g false w1 h1 (ho.lower (by omega)) HF.out)
    have HM1 := Lib.hid hm1; clear hm1 ho h1
    go_wp2_with fail
    refine HA.out.mono ?_
    rintro e w2 ⟨v', us', rfl, h2, hm2⟩
    have hq9 := Mvd.then HM1.out hm2
    go_wp2_with (first
      | (refine wpList_store_agg (o := ⟨none, _, _, _, _, _⟩) ?_ 186 (.tmp 2) (.tmp 12) ?_ (w.heap.size) 0 (partL (compP (.set g false) L).1) ?_ ?_ 186 zP (HZ.out.at' H.out hq9.mv) ?_ ?_ ?_ ?_; rfl; rfl; rfl; rfl; kernel_rfl; (show 0 + 9 ≤ 9; decide); exact partL_one _; intro w9 hw9 hm9 hs9; rw [spl9 _ rfl] at hw9)
      | fail)
    refine bodyPost_cell rfl (w.heap.size) 186 (partL (compP (.set g false) L).1).toArray rfl hw9 (by kernel_rfl) (by kernel_rfl) rfl ?_
    rw [HR.out]
    exact HZ.out.fin H.out h2 hq9 hm9
  | none =>
    rw [hm] at hR
    simp only at hR
    have HM := Lib.hid (many_none p l v us L W h1 hm)
    have hne := fun W => ne_nil none 0 0 W
    simp only [Option.isNone_none, Bool.not_true] at hne
    have he := escaped_any p l v us L 0 W h1 hn1 (by decide) (by decide)
    have hshr := fun c l1 (e : rescP 0 l = .ok (c, l1)) => (rescP_shr h.ok hn1 e).1
    have hfew := h.few
    have hlt := h1.lt
    generalize rescP 0 l = r1 at he hR hshr
    clear h hm h92 hn1 h1
    cases r1 with
    | error f =>
      have HR := Lib.hid hR; have HE := Lib.hid he; clear hR he hshr hfew
      go_enter Tryz.func187, Tryz.ntmps187
      go_wp2_with fail
      rw [← HW.out]
      go_wp2_with fail
      refine HM.out.mono ?_
      rintro e w1 ⟨rfl, rfl⟩
      go_wp2_with fail
      refine HE.out.mono ?_
      rintro e w2 ⟨rfl, hm2⟩
      have HM2 := Lib.hid hm2; clear hm2
      unfold flE
      go_wp2
      rw [HR.out]
      exact ⟨rfl, rfl, HZ.out.err ((Mvd.box HM2.out).mv)⟩
    | ok x =>
      obtain ⟨c, l1⟩ := x
      simp only at hR
      have hf : L.length + l1.length ≤ 256 := by have := (hshr c l1 rfl).lt; omega
      have HR := Lib.hid hR; have HE := Lib.hid he; have HF := Lib.hid hf; clear hR he hshr hfew hf
      go_enter Tryz.func187, Tryz.ntmps187
      go_wp2_with fail
      rw [← HW.out]
      go_wp2_with fail
      refine HM.out.mono ?_
      rintro e w1 ⟨rfl, rfl⟩
      go_wp2_with fail
      refine HE.out.mono ?_
      rintro e w2 ⟨rfl, h2, hm2⟩
      have hb : RowKit.Below w2.heap.size w2 (w2.alloc (.cells #[.int .i32 c, .int .i32 c] 234)) := (RowKit.Below.refl _ w2).alloc (Nat.le_refl _) _
      have hlt2 := h2.lt
      have HA := Lib.hid (add_any p _ v us L _ [(c, c)] false _ (h2.below hb) ((own_fresh (w := w2) (e := 234) (size := 2) (n := 1) (xs := [.int .i32 c, .int .i32 c]) rfl (by decide)).lower (by omega)) HF.out)
      have HM2 := Lib.hid (hm2.alloc (.cells #[.int .i32 c, .int .i32 c] 234)); clear hm2 h2 hb
      go_wp2_with fail
      refine HA.out.mono ?_
      rintro e w3 ⟨v', us', rfl, h3, hm3⟩
      have hq9 := Mvd.then HM2.out hm3
      go_wp2_with (first
        | (refine wpList_store_agg (o := ⟨none, _, _, _, _, _⟩) ?_ 186 (.tmp 2) (.tmp 21) ?_ (w.heap.size) 0 (partL (compP (.set [(c, c)] false) L).1) ?_ ?_ 186 zP (HZ.out.at' H.out hq9.mv) ?_ ?_ ?_ ?_; rfl; rfl; rfl; rfl; kernel_rfl; (show 0 + 9 ≤ 9; decide); exact partL_one _; intro w9 hw9 hm9 hs9; rw [spl9 _ rfl] at hw9)
        | fail)
      refine bodyPost_cell rfl (w.heap.size) 186 (partL (compP (.set [(c, c)] false) L).1).toArray rfl hw9 (by kernel_rfl) (by kernel_rfl) rfl ?_
      rw [HR.out]
      exact HZ.out.fin H.out h3 hq9 hm9
end
end
section
set_option linter.unusedVariables false
set_option linter.unusedSimpArgs false
open Go.RowKit
section
set_option maxHeartbeats 1600000
set_option maxRecDepth 100000
/-- What a class is while its members are read. -/
structure ClsIs (W wr : World) (p b3 : Nat) (l0 l' : List Pc) (v : Value) (us : List Value) (L : List Atm) (neg : Bool) (acc : Spans) (A : Option Addr) (c : Nat) : Prop where
  box : wr.heap[b3]? = some (.cells #[.slice A acc.length c, .bool neg, .int .u64 0, .int .u64 0, .int .u64 0, .int .u64 0] 217 (0, 0))
  pis : PIs wr p l' v us L
  own : wr.ownsRow (b3 + 1) 234 2 (.slice A acc.length c) acc.length (spC acc)
  mv : Mv (fun k => k = p) W wr
  len : l'.length ≤ l0.length
  few : acc.length + 4 * l'.length ≤ 2000
theorem cls_box {w : World} {b3 : Nat} {s s' : Value} {neg : Bool} (h : w.heap[b3]? = some (.cells #[s, .bool neg, .int .u64 0, .int .u64 0, .int .u64 0, .int .u64 0] 217 (0, 0))) : (w.setCell ⟨b3, 0, none⟩ s').heap[b3]? = some (.cells #[s', .bool neg, .int .u64 0, .int .u64 0, .int .u64 0, .int .u64 0] 217 (0, 0)) := by
  have := set_blk h 0 s'
  simpa using this
/-- The first members. -/
theorem ClsIs.first {W w2 w3 : World} {p b3 b n c : Nat} {l0 l2 : List Pc} {v s : Value} {us : List Value} {L : List Atm} {neg : Bool} {m : Spans} (h : PIs W p l0 v us L) (hb : W.heap.size ≤ b3) (h2 : w2.heap[b3]? = some (.cells #[s, .bool neg, .int .u64 0, .int .u64 0, .int .u64 0, .int .u64 0] 217 (0, 0))) (m2 : Mv (fun k => k = p) W w2)
    (hn : n = m.length) (ho : w3.ownsRow w2.heap.size 234 2 (.slice (some ⟨b, 0, none⟩) n c) n (spC m)) (h3 : PIs w3 p l2 v us L) (m3 : Mv (fun k => k = p) w2 w3) (hl : l2.length ≤ l0.length) (hm : m.length ≤ 4) :
    ClsIs W (w3.setCell ⟨b3, 0, none⟩ (.slice (some ⟨b, 0, none⟩) n c)) p b3 l0 l2 v us L neg m (some ⟨b, 0, none⟩) c := by
  subst hn
  have hp := h.lt
  have hb2 := blk_lt h2
  have hb3 : w3.heap[b3]? = _ := (m3.block _ hb2 (by omega)).trans h2
  have ms : Mv (fun k => k = b3) w3 (w3.setCell ⟨b3, 0, none⟩ (.slice (some ⟨b, 0, none⟩) m.length c)) := (Mv.refl (fun k => k = b3) w3).setCell (p := ⟨b3, 0, none⟩) (fun _ => rfl) _
  have hf := h.few
  refine ⟨cls_box hb3, h.high h3 ms (fun k e => by omega), own_mv (ho.lower (by omega)) ms fun k hk e => ?_, (m2.trans m3 fun _ _ h => h).trans ms fun i hi e => by omega, hl, by omega⟩
  have := (ho.lt k hk).1
  omega
/-- More members. -/
theorem ClsIs.more {W wr w3 w4 : World} {p b3 : Nat} {l0 l' l2 : List Pc} {v : Value} {us : List Value} {L : List Atm} {neg : Bool} {acc m : Spans} {A : Option Addr} {c : Nat} (h : PIs W p l0 v us L) (hb : W.heap.size ≤ b3) (k : ClsIs W wr p b3 l0 l' v us L neg acc A c)
    (h3 : PIs w3 p l2 v us L) (m3 : Mv (fun k => k = p) wr w3) (hs : l2.length < l'.length) (hm : m.length ≤ 4) {A' : Option Addr} {c' : Nat} (ho : w4.ownsRow (b3 + 1) 234 2 (.slice A' (acc.length + m.length) c') (acc.length + m.length) (spC acc ++ spC m)) (hg : w3.grownBy w4 (Value.slice A acc.length c).ownBlock) :
    ClsIs W (w4.setCell ⟨b3, 0, none⟩ (.slice A' (acc.length + m.length) c')) p b3 l0 l2 v us L neg (acc ++ m) A' c' := by
  have hp := h.lt
  have hb2 := blk_lt k.box
  have hb3 : w3.heap[b3]? = _ := (m3.block _ hb2 (by omega)).trans k.box
  have mg : Mv (fun i => (Value.slice A acc.length c).ownBlock = some i) w3 w4 := (Mv.refl _ w3).grown hg fun _ _ h => h
  have hab : ∀ i, (Value.slice A acc.length c).ownBlock = some i → b3 + 1 ≤ i := fun i hi => (k.own.lt i hi).1
  have hb4 : w4.heap[b3]? = _ := (mg.block _ (blk_lt hb3) (fun e => by have := hab _ e; omega)).trans hb3
  have ms : Mv (fun k => k = b3) w4 (w4.setCell ⟨b3, 0, none⟩ (.slice A' (acc.length + m.length) c')) := (Mv.refl (fun k => k = b3) w4).setCell (p := ⟨b3, 0, none⟩) (fun _ => rfl) _
  have h4 := h.high h3 mg fun i hi => by have := hab i hi; omega
  have hl := k.len
  have hf := k.few
  refine ⟨by rw [List.length_append]; exact cls_box hb4, h.high h4 ms (fun k e => by omega), by rw [List.length_append, spC_app]; exact own_mv ho ms fun i hi e => by (have := (ho.lt i hi).1; omega), ?_, by omega, by rw [List.length_append]; omega⟩
  refine ((k.mv.trans m3 fun _ _ h => h).trans mg fun i hi e => ?_).trans ms fun i hi e => by omega
  have := hab i e; omega
theorem class_any (p : Nat) (l : List Pc) (v : Value) (us : List Value) (L : List Atm) (w : World) (h : PIs w p l v us L) (h91 : nowP l = 91) :
    Calls Tryz.prog 186 #[.pointer (some ⟨p, 0, none⟩)] w (OutP p v L w (classP l)) := by
  obtain ⟨R, hR⟩ : ∃ R, R = classP l := ⟨_, rfl⟩
  rw [← hR]
  unfold classP at hR
  have hn1 : nowP l ≠ -1 := by rw [h91]; decide
  obtain ⟨W, hW⟩ : ∃ W, W = w.alloc (.cells #[.int .u64 0, .int .u64 0, .int .u64 0, .int .u64 0, .int .u64 0, .int .u64 0, .int .u64 0, .int .u64 0, .bool false] 186) := ⟨_, rfl⟩
  have hz : Zs w W := by rw [hW]; exact Zs.mk' w
  have h1 := hz.pis h
  have HW := Lib.hid hW; have HZ := Lib.hid hz; have H := Lib.hid h
  clear hW hz
  have HP := Lib.hid (pass_any p l v us L W h1 hn1)
  have HTL := Lib.hid (tail_lt h.ok)
  have H1 := Lib.hid h1; clear h1 h h91 hn1
  by_cases h94 : nowP l.tail = 94
  · have d94 : decide (nowP l.tail = 94) = true := by rw [h94]; rfl
    simp only [d94, if_true] at hR
    have HR := Lib.hid hR; clear hR d94
    go_enter Tryz.func186, Tryz.ntmps186
    go_wp2_with fail
    rw [← HW.out]
    go_wp2_with fail
    refine HP.out.mono ?_
    rintro e w1 ⟨rfl, h1, hm1⟩
    have hN := now_any p _ v us L w1 h1
    rw [h94] at hN

    have HN := Lib.hid hN
    have HM1 := Lib.hid hm1; have HP1 := Lib.hid h1; clear hm1 h1 hN
    go_wp2_with fail
    refine HN.out.mono ?_
    rintro e w2 ⟨rfl, rfl⟩
    obtain ⟨Wb, hWb⟩ : ∃ Wb, Wb = w2.alloc (.cells #[.slice none 0 0, .bool true, .int .u64 0, .int .u64 0, .int .u64 0, .int .u64 0] 217) := ⟨_, rfl⟩
    obtain ⟨b3, hb3⟩ : ∃ b3, b3 = w2.heap.size := ⟨_, rfl⟩
    have hbb : RowKit.Below w2.heap.size w2 Wb := by rw [hWb]; exact (RowKit.Below.refl _ _).alloc (Nat.le_refl _) _
    have HB3 := Lib.hid (show W.heap.size ≤ b3 by rw [hb3]; exact HM1.out.size)
    have hbx : Wb.heap[b3]? = some (.cells #[.slice none 0 0, .bool true, .int .u64 0, .int .u64 0, .int .u64 0, .int .u64 0] 217 (0, 0)) := by rw [hWb, hb3]; exact heap_alloc_new _ _
    have hpb := HP1.out.below hbb
    have hmb := HM1.out.trans (Mv.of_below hbb (fun k => k = p)) fun _ _ h => h
    have HWb := Lib.hid hWb; have HBE := Lib.hid hb3
    have bc0 := cell_blk hbx 0
    have bc1 := cell_blk hbx 1
    have bf0 := free_blk hbx 0
    simp only [List.getElem?_toArray, List.getElem?_cons_zero, List.getElem?_cons_succ] at bc0 bc1
    have HPP := Lib.hid (pass_any p _ v us L Wb hpb (by rw [h94]; decide))
    have HT2 := Lib.hid (tail_lt hpb.ok)
    have HBB := Lib.hid hbx; have HMB0 := Lib.hid hmb; clear hbx hmb hpb hbb hWb hb3 HM1 HP1 HN h94
    go_wp2_with fail
    rw [← HWb.out, ← HBE.out]
    go_wp2_with fail
    refine HPP.out.mono ?_
    rintro e wm ⟨rfl, hpq, hmq⟩
    have HPQ := Lib.hid hpq
    have HMQ := Lib.hid (HMB0.out.trans hmq fun _ _ h => h)
    have HBX := Lib.hid (show wm.heap[b3]? = some (.cells #[.slice none 0 0, .bool true, .int .u64 0, .int .u64 0, .int .u64 0, .int .u64 0] 217 (0, 0)) from (hmq.block _ (blk_lt HBB.out) (by have := H1.out.lt; have := HB3.out; omega)).trans HBB.out)
    obtain ⟨lq, hlq⟩ : ∃ lq, lq = l.tail.tail := ⟨_, rfl⟩
    have HLQ := Lib.hid (show lq.length ≤ l.length by have := HTL.out; have := HT2.out; rw [hlq]; omega)
    rw [← hlq] at HPQ HR
    clear hpq hmq bc0 bc1 bf0 hlq HTL HT2 HPP HMB0 HBB
    obtain ⟨r1, hr1⟩ : ∃ r1, r1 = memberP lq := ⟨_, rfl⟩
    have hmb := member_any p lq v us L wm HPQ.out
    have hsh : ∀ m l2, r1 = .ok (m, l2) → l2.length < lq.length ∧ m.length ≤ 4 := fun m l2 e => by rw [hr1] at e; exact ⟨(memberP_shr HPQ.out.ok e).lt, memberP_len e⟩
    have hR := HR.out
    rw [← hr1] at hmb hR
    have HMB := Lib.hid hmb; have HSH := Lib.hid hsh; clear hmb hsh hr1 HR
    cases r1 with
    | error f =>
      have HR := Lib.hid hR; clear hR
      go_wp2_with fail
      refine HMB.out.mono ?_
      rintro e w3 ⟨rfl, hm3⟩
      have HM3 := Lib.hid hm3; clear hm3
      unfold flE
      go_wp2
      rw [HR.out]
      exact ⟨rfl, rfl, HZ.out.err ((Mvd.box (HMQ.out.trans HM3.out fun _ _ h => h)).mv)⟩
    | ok x =>
      obtain ⟨m, l2⟩ := x
      simp only at hR
      obtain ⟨hl2, hm4⟩ := HSH.out m l2 rfl
      obtain ⟨R2, hR2⟩ : ∃ R2, membersP l2.length m l2 = R2 := ⟨_, rfl⟩
      rw [hR2] at hR
      have HR := Lib.hid hR; have HR2 := Lib.hid hR2; clear hR hR2 HSH
      go_wp2_with fail
      refine HMB.out.mono ?_
      rintro e w3 ⟨b, n, c, rfl, hn, ho, h3, hm3⟩
      have hbx : w3.heap[b3]? = _ := (hm3.block _ (blk_lt HBX.out) (by have := H1.out.lt; have := HB3.out; omega)).trans HBX.out
      have bc0 := cell_blk hbx 0
      have bf0 := free_blk hbx 0
      simp only [List.getElem?_toArray, List.getElem?_cons_zero] at bc0
      have HC := Lib.hid (ClsIs.first H1.out HB3.out HBX.out HMQ.out hn ho h3 hm3 (by have := HLQ.out; omega) hm4)
      clear hn ho h3 hm3 hbx HMB HMQ HPQ HBX hl2 hm4
      go_wp2_with fail
      go_loopw [] (fun wr => ∃ (acc : Spans) (l' : List Pc) (A : Option Addr) (c : Nat), Aside (ClsIs W wr p b3 l l' v us L true acc A c) ∧ Aside (membersP l'.length acc l' = R2)) (fun wr => restN p wr)
      case atStart => exact ⟨m, l2, _, _, HC.out, HR2.out⟩
      case round =>
        obtain ⟨acc, l', A, c', HCL, HE⟩ := hrel
        clear HC bc0 bf0
        have hE := HE.out
        rw [members_step acc HCL.out.pis.ok] at hE
        have HN := Lib.hid (now_any p l' v us L wr HCL.out.pis)
        have hp3 : p < b3 := by have := H1.out.lt; have := HB3.out; omega
        by_cases h93 : nowP l' = 93
        · rw [if_pos h93] at hE
          have hR := HR.out
          rw [← hE] at hR
          simp only at hR
          have HR9 := Lib.hid hR
          have hn2 : nowP l' ≠ -1 := by rw [h93]; decide
          have HP := Lib.hid (pass_any p l' v us L wr HCL.out.pis hn2)
          have hf : L.length + l'.tail.length ≤ 256 := by have := tail_lt HCL.out.pis.ok; have := HCL.out.len; have := H1.out.few; omega
          have hN := HN.out
          rw [h93] at hN
          have HNN := Lib.hid hN
          clear hN HN hE hR HR hn2 h93
          have HR := HR9
          go_wp2_with fail
          refine HNN.out.mono ?_
          rintro e w4 ⟨rfl, rfl⟩
          go_wp2_with fail
          refine HP.out.mono ?_
          rintro e w5 ⟨rfl, h5, hm5⟩
          have hbx : w5.heap[b3]? = _ := (hm5.block _ (blk_lt HCL.out.box) (by omega)).trans HCL.out.box
          have bc0 := cell_blk hbx 0
          have bc1 := cell_blk hbx 1
          have bc2 := cell_blk hbx 2
          have bc3 := cell_blk hbx 3
          have bc4 := cell_blk hbx 4
          have bc5 := cell_blk hbx 5
          simp only [List.getElem?_toArray, List.getElem?_cons_zero, List.getElem?_cons_succ] at bc0 bc1 bc2 bc3 bc4 bc5
          have HA := Lib.hid (add_any p _ v us L _ acc true w5 h5 ((own_mv HCL.out.own hm5 fun k hk e => by have := (HCL.out.own.lt k hk).1; omega).lower (by omega)) hf)
          have HM5 := Lib.hid (Mvd.box (v := v) (HCL.out.mv.trans hm5 fun _ _ h => h)); clear hm5 h5 hbx hf
          go_wp2_with fail
          refine HA.out.mono ?_
          rintro e w6 ⟨v', us', rfl, h6, hm6⟩
          have hq9 := HM5.out.trans hm6
          go_wp2_with (first
            | (refine wpList_store_agg (o := ⟨none, _, _, _, _, _⟩) ?_ 186 (.tmp 2) (.tmp 30) ?_ (w.heap.size) 0 (partL (compP (.set acc true) L).1) ?_ ?_ 186 zP (HZ.out.at' H.out hq9.mv) ?_ ?_ ?_ ?_; rfl; rfl; rfl; rfl; kernel_rfl; (show 0 + 9 ≤ 9; decide); exact partL_one _; intro w9 hw9 hm9 hs9; rw [spl9 _ rfl] at hw9)
            | fail)
          refine bodyPost_cell rfl (w.heap.size) 186 (partL (compP (.set acc true) L).1).toArray rfl hw9 (by kernel_rfl) (by kernel_rfl) rfl ?_
          rw [HR.out]
          exact HZ.out.fin H.out h6 hq9 hm9
        · rw [if_neg h93] at hE
          have g93 : (nowP l' != 93) = true := by rw [bne_iff_ne]; exact h93
          obtain ⟨r2, hr2⟩ : ∃ r2, r2 = memberP l' := ⟨_, rfl⟩
          have hmb := fun W' (k : PIs W' p l' v us L) => member_any p l' v us L W' k
          have hsh : ∀ m l2, r2 = .ok (m, l2) → l2.length < l'.length ∧ m.length ≤ 4 := fun m l2 e => by rw [hr2] at e; exact ⟨(memberP_shr HCL.out.pis.ok e).lt, memberP_len e⟩
          rw [← hr2] at hmb hE
          have HMB := Lib.hid hmb; have HSH := Lib.hid hsh; clear hmb hsh hr2
          have bc0 := cell_blk HCL.out.box 0
          simp only [List.getElem?_toArray, List.getElem?_cons_zero] at bc0
          have HE2 := Lib.hid hE; clear hE HE h93
          generalize nowP l' = cn at g93 HN
          cases r2 with
          | error f =>
            have hE := HE2.out
            simp only at hE
            have hR := HR.out
            rw [← hE] at hR
            simp only at hR
            have HR9 := Lib.hid hR; clear hE hR HE2 HR
            have HR := HR9
            go_wp2_with fail
            refine HN.out.mono ?_
            rintro e w4 ⟨rfl, rfl⟩
            have HPI := Lib.hid (fun W' (m : Mv (fun _ => False) w4 W') => HMB.out W' (HCL.out.pis.other m (fun _ _ f => f) (fun _ _ f => f)))
            have HERR := Lib.hid (show ∀ W', Mv (fun k => k = p) w4 W' → OutP p v L w R (flE f) W' from fun W' m => by rw [HR.out]; exact ⟨rfl, HZ.out.err (Mvd.box (v := v) (HCL.out.mv.trans m fun _ _ h => h)).mv⟩)
            clear HMB HSH
            unfold flE at HPI
            go_wp2_with fail
            refine wp_region_any (by kernel_rfl) ?_
            try (change wpAny _ _ _ _ _ _ _ (World.drew _))
            refine wpAny_take (i := 0) (v := ?_) rfl (by kernel_rfl) (by kernel_rfl) (by kernel_rfl) (fun _ _ _ h => h) (Or.inl ⟨by rfl, ?_⟩) ?_
            rotate_left
            · intro w; go_simp; try with_reducible rfl
            refine wpAny_take (i := 2) (v := ?_) rfl (by kernel_rfl) (by kernel_rfl) (by kernel_rfl) (fun _ _ _ h => h) (Or.inl ⟨by rfl, ?_⟩) ?_
            rotate_left
            · intro w; go_simp; try with_reducible rfl
            refine wpAny_ready (rs := [1, 3]) (by kernel_rfl) (by simp) ?_
            refine AllReady.cons rfl (fun K hK => ?_) ?_
            · go_simp
              refine hK _ _ ?_
              clear hK K
              refine wpAny_ready (rs := [3]) (by kernel_rfl) (by simp) ?_
              refine AllReady.cons rfl (fun K hK => ?_) AllReady.nil
              · go_simp
                (with_reducible refine (HPI.out _ (by repeat (first | exact Mv.refl _ w4 | refine Mv.drew ?_))).mono ?_); rintro e wq ⟨rfl, hmq⟩; have hmq2 : Mv (fun k => k = p) w4 wq := (by first | exact hmq | exact undrewMv hmq | exact undrewMv (undrewMv hmq)); exact ⟨rfl, HERR.out _ hmq2⟩
            refine AllReady.cons rfl (fun K hK => ?_) AllReady.nil
            · go_simp
              (with_reducible refine (HPI.out _ (by repeat (first | exact Mv.refl _ w4 | refine Mv.drew ?_))).mono ?_); rintro e wq ⟨rfl, hmq⟩; have hmq2 : Mv (fun k => k = p) w4 wq := (by first | exact hmq | exact undrewMv hmq | exact undrewMv (undrewMv hmq)); exact ⟨rfl, HERR.out _ hmq2⟩
          | ok x =>
            obtain ⟨m2, l3⟩ := x
            have hE3 := HE2.out
            simp only at hE3
            have HE3 := Lib.hid hE3; clear hE3 HE2
            go_wp2_with fail
            refine HN.out.mono ?_
            rintro e w4 ⟨rfl, rfl⟩
            obtain ⟨hl3, hm24⟩ := HSH.out m2 l3 rfl
            have HPI := Lib.hid (fun W' (m : Mv (fun _ => False) w4 W') => HMB.out W' (HCL.out.pis.other m (fun _ _ f => f) (fun _ _ f => f)))
            have HMO := Lib.hid (fun w3 w8 (A' : Option Addr) (c2 : Nat) (h3 : PIs w3 p l3 v us L) (m3 : Mv (fun k => k = p) w4 w3) ho hg => ClsIs.more (w4 := w8) (A' := A') (c' := c2) H1.out HB3.out HCL.out h3 m3 hl3 hm24 ho hg)
            have hfew := HCL.out.few
            have HL3 := Lib.hid hl3
            clear HMB HSH hl3
            go_wp2_with fail
            go_region_law (first
              | (go_simp; go_at_call 190; (with_reducible refine (HPI.out _ (by repeat (first | exact Mv.refl _ w4 | refine Mv.drew ?_))).mono ?_); rintro e wq ⟨b2, n2, c2, rfl, hn2, ho2, h3, hm3⟩; subst hn2; have hmq : Mv (fun k => k = p) w4 wq := (by first | exact hm3 | exact undrewMv hm3 | exact undrewMv (undrewMv hm3)); have hbq : wq.heap[b3]? = _ := (hmq.block _ (blk_lt HCL.out.box) (by omega)).trans HCL.out.box; have bq0 := cell_blk hbq 0; simp only [List.getElem?_toArray, List.getElem?_cons_zero] at bq0; have HBQ := Lib.hid hbq; have HMQ3 := Lib.hid hmq; have HO2 := Lib.hid ho2; have H3 := Lib.hid h3; clear hbq hmq ho2 h3 hm3)
              | (refine step_append_g rfl (.tmp 21) (.tmp 23) 215 234 (.agg #[.int .i32 0, .int .i32 0]) 2 8 infoSpan Tryz.underlying215 rfl (by decide) rfl (b3 + 1) (.slice A acc.length c') acc.length (spC acc) rfl (own_mv (S := fun k => k = p) HCL.out.own (by repeat (first | exact HMQ3.out | refine Mv.drew ?_)) fun k hk e => by have := (HCL.out.own.lt k hk).1; omega) (some ⟨b2, 0, none⟩) m2.length c2 (spC m2) rfl (by first | exact own_read HO2.out | exact own_read (own_mv (S := fun _ => False) HO2.out (by repeat (first | exact Mv.refl _ wq | refine Mv.drew ?_)) fun _ _ f => f)) (spC_len m2) (spC_one m2) (by unfold maxLen; omega) (by omega) (by have := blk_lt HBQ.out; exact Nat.le_trans this (Mv.size (S := fun _ => False) (by repeat (first | exact Mv.refl _ wq | refine Mv.drew ?_)))) ?_; intro v4 w7 ho4 hg4; obtain ⟨A4, c4, rfl, -, -, -⟩ := own_rdg ho4; have hg5 : wq.grownBy w7 (Value.slice A acc.length c').ownBlock := (by first | exact hg4 | exact ungrown hg4); have hC7 := HMO.out wq w7 A4 c4 H3.out HMQ3.out ho4 hg5; have hb7 : w7.heap[b3]? = _ := ((Mv.refl (fun i => (Value.slice A acc.length c').ownBlock = some i) wq).grown hg5 fun _ _ h => h).block _ (blk_lt HBQ.out) (fun e => by have := (HCL.out.own.lt _ e).1; omega) |>.trans HBQ.out; have b70 := cell_blk hb7 0; have f70 := free_blk hb7 0; simp only [List.getElem?_toArray, List.getElem?_cons_zero] at b70; have HC7 := Lib.hid hC7; clear hC7 hb7 ho4 hg4 hg5)
              | fail)
            all_goals
              go_wp2
              go_roundw
              case rel => exact ⟨acc ++ m2, l3, A4, c4, HC7.out, HE3.out⟩
              case measure => rw [HC7.out.pis.restN, HCL.out.pis.restN]; exact HL3.out
  · have d94 : decide (nowP l.tail = 94) = false := by simp [h94]
    simp only [d94, Bool.false_eq_true, if_false] at hR
    have HR := Lib.hid hR; clear hR d94
    go_enter Tryz.func186, Tryz.ntmps186
    go_wp2_with fail
    rw [← HW.out]
    go_wp2_with fail
    refine HP.out.mono ?_
    rintro e w1 ⟨rfl, h1, hm1⟩
    have hN := now_any p _ v us L w1 h1
    have g94 : (nowP l.tail == 94) = false := by rw [beq_eq_false_iff_ne]; exact h94
    generalize nowP l.tail = cn at hN g94
    have HN := Lib.hid hN
    have HM1 := Lib.hid hm1; have HP1 := Lib.hid h1; clear hm1 h1 hN
    go_wp2_with fail
    refine HN.out.mono ?_
    rintro e w2 ⟨rfl, rfl⟩
    obtain ⟨Wb, hWb⟩ : ∃ Wb, Wb = w2.alloc (.cells #[.slice none 0 0, .bool false, .int .u64 0, .int .u64 0, .int .u64 0, .int .u64 0] 217) := ⟨_, rfl⟩
    obtain ⟨b3, hb3⟩ : ∃ b3, b3 = w2.heap.size := ⟨_, rfl⟩
    have hbb : RowKit.Below w2.heap.size w2 Wb := by rw [hWb]; exact (RowKit.Below.refl _ _).alloc (Nat.le_refl _) _
    have HB3 := Lib.hid (show W.heap.size ≤ b3 by rw [hb3]; exact HM1.out.size)
    have hbx : Wb.heap[b3]? = some (.cells #[.slice none 0 0, .bool false, .int .u64 0, .int .u64 0, .int .u64 0, .int .u64 0] 217 (0, 0)) := by rw [hWb, hb3]; exact heap_alloc_new _ _
    have hpb := HP1.out.below hbb
    have hmb := HM1.out.trans (Mv.of_below hbb (fun k => k = p)) fun _ _ h => h
    have HWb := Lib.hid hWb; have HBE := Lib.hid hb3
    have bc0 := cell_blk hbx 0
    have bc1 := cell_blk hbx 1
    have bf0 := free_blk hbx 0
    simp only [List.getElem?_toArray, List.getElem?_cons_zero, List.getElem?_cons_succ] at bc0 bc1
    obtain ⟨lq, hlq⟩ : ∃ lq, lq = l.tail := ⟨_, rfl⟩
    have HLQ := Lib.hid (show lq.length ≤ l.length by have := HTL.out; rw [hlq]; omega)
    have HPQ := Lib.hid hpb
    rw [← hlq] at HPQ HR
    have HBX := Lib.hid hbx; have HMQ := Lib.hid hmb; clear hbx hmb hpb hbb hWb hb3 HM1 HP1 HN h94
    go_wp2_with fail
    rw [← HWb.out, ← HBE.out]
    obtain ⟨wm, hwm⟩ : ∃ wm, wm = Wb := ⟨_, rfl⟩
    subst hwm
    clear bc0 bc1 bf0 HTL hlq
    obtain ⟨r1, hr1⟩ : ∃ r1, r1 = memberP lq := ⟨_, rfl⟩
    have hmb := member_any p lq v us L wm HPQ.out
    have hsh : ∀ m l2, r1 = .ok (m, l2) → l2.length < lq.length ∧ m.length ≤ 4 := fun m l2 e => by rw [hr1] at e; exact ⟨(memberP_shr HPQ.out.ok e).lt, memberP_len e⟩
    have hR := HR.out
    rw [← hr1] at hmb hR
    have HMB := Lib.hid hmb; have HSH := Lib.hid hsh; clear hmb hsh hr1 HR
    cases r1 with
    | error f =>
      have HR := Lib.hid hR; clear hR
      go_wp2_with fail
      refine HMB.out.mono ?_
      rintro e w3 ⟨rfl, hm3⟩
      have HM3 := Lib.hid hm3; clear hm3
      unfold flE
      go_wp2
      rw [HR.out]
      exact ⟨rfl, rfl, HZ.out.err ((Mvd.box (HMQ.out.trans HM3.out fun _ _ h => h)).mv)⟩
    | ok x =>
      obtain ⟨m, l2⟩ := x
      simp only at hR
      obtain ⟨hl2, hm4⟩ := HSH.out m l2 rfl
      obtain ⟨R2, hR2⟩ : ∃ R2, membersP l2.length m l2 = R2 := ⟨_, rfl⟩
      rw [hR2] at hR
      have HR := Lib.hid hR; have HR2 := Lib.hid hR2; clear hR hR2 HSH
      go_wp2_with fail
      refine HMB.out.mono ?_
      rintro e w3 ⟨b, n, c, rfl, hn, ho, h3, hm3⟩
      have hbx : w3.heap[b3]? = _ := (hm3.block _ (blk_lt HBX.out) (by have := H1.out.lt; have := HB3.out; omega)).trans HBX.out
      have bc0 := cell_blk hbx 0
      have bf0 := free_blk hbx 0
      simp only [List.getElem?_toArray, List.getElem?_cons_zero] at bc0
      have HC := Lib.hid (ClsIs.first H1.out HB3.out HBX.out HMQ.out hn ho h3 hm3 (by have := HLQ.out; omega) hm4)
      clear hn ho h3 hm3 hbx HMB HMQ HPQ HBX hl2 hm4
      go_wp2_with fail
      go_loopw [] (fun wr => ∃ (acc : Spans) (l' : List Pc) (A : Option Addr) (c : Nat), Aside (ClsIs W wr p b3 l l' v us L false acc A c) ∧ Aside (membersP l'.length acc l' = R2)) (fun wr => restN p wr)
      case atStart => exact ⟨m, l2, _, _, HC.out, HR2.out⟩
      case round =>
        obtain ⟨acc, l', A, c', HCL, HE⟩ := hrel
        clear HC bc0 bf0
        have hE := HE.out
        rw [members_step acc HCL.out.pis.ok] at hE
        have HN := Lib.hid (now_any p l' v us L wr HCL.out.pis)
        have hp3 : p < b3 := by have := H1.out.lt; have := HB3.out; omega
        by_cases h93 : nowP l' = 93
        · rw [if_pos h93] at hE
          have hR := HR.out
          rw [← hE] at hR
          simp only at hR
          have HR9 := Lib.hid hR
          have hn2 : nowP l' ≠ -1 := by rw [h93]; decide
          have HP := Lib.hid (pass_any p l' v us L wr HCL.out.pis hn2)
          have hf : L.length + l'.tail.length ≤ 256 := by have := tail_lt HCL.out.pis.ok; have := HCL.out.len; have := H1.out.few; omega
          have hN := HN.out
          rw [h93] at hN
          have HNN := Lib.hid hN
          clear hN HN hE hR HR hn2 h93
          have HR := HR9
          go_wp2_with fail
          refine HNN.out.mono ?_
          rintro e w4 ⟨rfl, rfl⟩
          go_wp2_with fail
          refine HP.out.mono ?_
          rintro e w5 ⟨rfl, h5, hm5⟩
          have hbx : w5.heap[b3]? = _ := (hm5.block _ (blk_lt HCL.out.box) (by omega)).trans HCL.out.box
          have bc0 := cell_blk hbx 0
          have bc1 := cell_blk hbx 1
          have bc2 := cell_blk hbx 2
          have bc3 := cell_blk hbx 3
          have bc4 := cell_blk hbx 4
          have bc5 := cell_blk hbx 5
          simp only [List.getElem?_toArray, List.getElem?_cons_zero, List.getElem?_cons_succ] at bc0 bc1 bc2 bc3 bc4 bc5
          have HA := Lib.hid (add_any p _ v us L _ acc false w5 h5 ((own_mv HCL.out.own hm5 fun k hk e => by have := (HCL.out.own.lt k hk).1; omega).lower (by omega)) hf)
          have HM5 := Lib.hid (Mvd.box (v := v) (HCL.out.mv.trans hm5 fun _ _ h => h)); clear hm5 h5 hbx hf
          go_wp2_with fail
          refine HA.out.mono ?_
          rintro e w6 ⟨v', us', rfl, h6, hm6⟩
          have hq9 := HM5.out.trans hm6
          go_wp2_with (first
            | (refine wpList_store_agg (o := ⟨none, _, _, _, _, _⟩) ?_ 186 (.tmp 2) (.tmp 30) ?_ (w.heap.size) 0 (partL (compP (.set acc false) L).1) ?_ ?_ 186 zP (HZ.out.at' H.out hq9.mv) ?_ ?_ ?_ ?_; rfl; rfl; rfl; rfl; kernel_rfl; (show 0 + 9 ≤ 9; decide); exact partL_one _; intro w9 hw9 hm9 hs9; rw [spl9 _ rfl] at hw9)
            | fail)
          refine bodyPost_cell rfl (w.heap.size) 186 (partL (compP (.set acc false) L).1).toArray rfl hw9 (by kernel_rfl) (by kernel_rfl) rfl ?_
          rw [HR.out]
          exact HZ.out.fin H.out h6 hq9 hm9
        · rw [if_neg h93] at hE
          have g93 : (nowP l' != 93) = true := by rw [bne_iff_ne]; exact h93
          obtain ⟨r2, hr2⟩ : ∃ r2, r2 = memberP l' := ⟨_, rfl⟩
          have hmb := fun W' (k : PIs W' p l' v us L) => member_any p l' v us L W' k
          have hsh : ∀ m l2, r2 = .ok (m, l2) → l2.length < l'.length ∧ m.length ≤ 4 := fun m l2 e => by rw [hr2] at e; exact ⟨(memberP_shr HCL.out.pis.ok e).lt, memberP_len e⟩
          rw [← hr2] at hmb hE
          have HMB := Lib.hid hmb; have HSH := Lib.hid hsh; clear hmb hsh hr2
          have bc0 := cell_blk HCL.out.box 0
          simp only [List.getElem?_toArray, List.getElem?_cons_zero] at bc0
          have HE2 := Lib.hid hE; clear hE HE h93
          generalize nowP l' = cn at g93 HN
          cases r2 with
          | error f =>
            have hE := HE2.out
            simp only at hE
            have hR := HR.out
            rw [← hE] at hR
            simp only at hR
            have HR9 := Lib.hid hR; clear hE hR HE2 HR
            have HR := HR9
            go_wp2_with fail
            refine HN.out.mono ?_
            rintro e w4 ⟨rfl, rfl⟩
            have HPI := Lib.hid (fun W' (m : Mv (fun _ => False) w4 W') => HMB.out W' (HCL.out.pis.other m (fun _ _ f => f) (fun _ _ f => f)))
            have HERR := Lib.hid (show ∀ W', Mv (fun k => k = p) w4 W' → OutP p v L w R (flE f) W' from fun W' m => by rw [HR.out]; exact ⟨rfl, HZ.out.err (Mvd.box (v := v) (HCL.out.mv.trans m fun _ _ h => h)).mv⟩)
            clear HMB HSH
            unfold flE at HPI
            go_wp2_with fail
            refine wp_region_any (by kernel_rfl) ?_
            try (change wpAny _ _ _ _ _ _ _ (World.drew _))
            refine wpAny_take (i := 0) (v := ?_) rfl (by kernel_rfl) (by kernel_rfl) (by kernel_rfl) (fun _ _ _ h => h) (Or.inl ⟨by rfl, ?_⟩) ?_
            rotate_left
            · intro w; go_simp; try with_reducible rfl
            refine wpAny_take (i := 2) (v := ?_) rfl (by kernel_rfl) (by kernel_rfl) (by kernel_rfl) (fun _ _ _ h => h) (Or.inl ⟨by rfl, ?_⟩) ?_
            rotate_left
            · intro w; go_simp; try with_reducible rfl
            refine wpAny_ready (rs := [1, 3]) (by kernel_rfl) (by simp) ?_
            refine AllReady.cons rfl (fun K hK => ?_) ?_
            · go_simp
              refine hK _ _ ?_
              clear hK K
              refine wpAny_ready (rs := [3]) (by kernel_rfl) (by simp) ?_
              refine AllReady.cons rfl (fun K hK => ?_) AllReady.nil
              · go_simp
                (with_reducible refine (HPI.out _ (by repeat (first | exact Mv.refl _ w4 | refine Mv.drew ?_))).mono ?_); rintro e wq ⟨rfl, hmq⟩; have hmq2 : Mv (fun k => k = p) w4 wq := (by first | exact hmq | exact undrewMv hmq | exact undrewMv (undrewMv hmq)); exact ⟨rfl, HERR.out _ hmq2⟩
            refine AllReady.cons rfl (fun K hK => ?_) AllReady.nil
            · go_simp
              (with_reducible refine (HPI.out _ (by repeat (first | exact Mv.refl _ w4 | refine Mv.drew ?_))).mono ?_); rintro e wq ⟨rfl, hmq⟩; have hmq2 : Mv (fun k => k = p) w4 wq := (by first | exact hmq | exact undrewMv hmq | exact undrewMv (undrewMv hmq)); exact ⟨rfl, HERR.out _ hmq2⟩
          | ok x =>
            obtain ⟨m2, l3⟩ := x
            have hE3 := HE2.out
            simp only at hE3
            have HE3 := Lib.hid hE3; clear hE3 HE2
            go_wp2_with fail
            refine HN.out.mono ?_
            rintro e w4 ⟨rfl, rfl⟩
            obtain ⟨hl3, hm24⟩ := HSH.out m2 l3 rfl
            have HPI := Lib.hid (fun W' (m : Mv (fun _ => False) w4 W') => HMB.out W' (HCL.out.pis.other m (fun _ _ f => f) (fun _ _ f => f)))
            have HMO := Lib.hid (fun w3 w8 (A' : Option Addr) (c2 : Nat) (h3 : PIs w3 p l3 v us L) (m3 : Mv (fun k => k = p) w4 w3) ho hg => ClsIs.more (w4 := w8) (A' := A') (c' := c2) H1.out HB3.out HCL.out h3 m3 hl3 hm24 ho hg)
            have hfew := HCL.out.few
            have HL3 := Lib.hid hl3
            clear HMB HSH hl3
            go_wp2_with fail
            go_region_law (first
              | (go_simp; go_at_call 190; (with_reducible refine (HPI.out _ (by repeat (first | exact Mv.refl _ w4 | refine Mv.drew ?_))).mono ?_); rintro e wq ⟨b2, n2, c2, rfl, hn2, ho2, h3, hm3⟩; subst hn2; have hmq : Mv (fun k => k = p) w4 wq := (by first | exact hm3 | exact undrewMv hm3 | exact undrewMv (undrewMv hm3)); have hbq : wq.heap[b3]? = _ := (hmq.block _ (blk_lt HCL.out.box) (by omega)).trans HCL.out.box; have bq0 := cell_blk hbq 0; simp only [List.getElem?_toArray, List.getElem?_cons_zero] at bq0; have HBQ := Lib.hid hbq; have HMQ3 := Lib.hid hmq; have HO2 := Lib.hid ho2; have H3 := Lib.hid h3; clear hbq hmq ho2 h3 hm3)
              | (refine step_append_g rfl (.tmp 21) (.tmp 23) 215 234 (.agg #[.int .i32 0, .int .i32 0]) 2 8 infoSpan Tryz.underlying215 rfl (by decide) rfl (b3 + 1) (.slice A acc.length c') acc.length (spC acc) rfl (own_mv (S := fun k => k = p) HCL.out.own (by repeat (first | exact HMQ3.out | refine Mv.drew ?_)) fun k hk e => by have := (HCL.out.own.lt k hk).1; omega) (some ⟨b2, 0, none⟩) m2.length c2 (spC m2) rfl (by first | exact own_read HO2.out | exact own_read (own_mv (S := fun _ => False) HO2.out (by repeat (first | exact Mv.refl _ wq | refine Mv.drew ?_)) fun _ _ f => f)) (spC_len m2) (spC_one m2) (by unfold maxLen; omega) (by omega) (by have := blk_lt HBQ.out; exact Nat.le_trans this (Mv.size (S := fun _ => False) (by repeat (first | exact Mv.refl _ wq | refine Mv.drew ?_)))) ?_; intro v4 w7 ho4 hg4; obtain ⟨A4, c4, rfl, -, -, -⟩ := own_rdg ho4; have hg5 : wq.grownBy w7 (Value.slice A acc.length c').ownBlock := (by first | exact hg4 | exact ungrown hg4); have hC7 := HMO.out wq w7 A4 c4 H3.out HMQ3.out ho4 hg5; have hb7 : w7.heap[b3]? = _ := ((Mv.refl (fun i => (Value.slice A acc.length c').ownBlock = some i) wq).grown hg5 fun _ _ h => h).block _ (blk_lt HBQ.out) (fun e => by have := (HCL.out.own.lt _ e).1; omega) |>.trans HBQ.out; have b70 := cell_blk hb7 0; have f70 := free_blk hb7 0; simp only [List.getElem?_toArray, List.getElem?_cons_zero] at b70; have HC7 := Lib.hid hC7; clear hC7 hb7 ho4 hg4 hg5)
              | fail)
            all_goals
              go_wp2
              go_roundw
              case rel => exact ⟨acc ++ m2, l3, A4, c4, HC7.out, HE3.out⟩
              case measure => rw [HC7.out.pis.restN, HCL.out.pis.restN]; exact HL3.out
end
end
section
set_option linter.unusedVariables false
set_option linter.unusedSimpArgs false
open Go.RowKit
/-- Groups, n of them around, read as grp says. -/
def GC (grp : List Pc → Rs Re) (n : Nat) : Prop := GrpOk grp ∧ ∀ (p : Nat) (l : List Pc) (v : Value) (us : List Value) (L : List Atm) (w : World), PIs w p l v us L → nowP l = 40 → Calls Tryz.prog 185 #[.pointer (some ⟨p, 0, none⟩), .int .i64 (n : Nat)] w (OutP p v L w (grp l))
section
set_option maxHeartbeats 1600000
set_option maxRecDepth 100000
theorem atom_any (grp : List Pc → Rs Re) (n : Nat) (hG : GC grp n) (p : Nat) (l : List Pc) (v : Value) (us : List Value) (L : List Atm) (w : World) (h : PIs w p l v us L) :
    Calls Tryz.prog 184 #[.pointer (some ⟨p, 0, none⟩), .int .i64 (n : Nat)] w (OutP p v L w (atomP grp l)) := by
  obtain ⟨R, hR⟩ : ∃ R, R = atomP grp l := ⟨_, rfl⟩
  rw [← hR]
  unfold atomP at hR
  obtain ⟨W, hW⟩ : ∃ W, W = w.alloc (.cells #[.int .u64 0, .int .u64 0, .int .u64 0, .int .u64 0, .int .u64 0, .int .u64 0, .int .u64 0, .int .u64 0, .bool false] 186) := ⟨_, rfl⟩
  have hz : Zs w W := by rw [hW]; exact Zs.mk' w
  have h1 := hz.pis h
  have HW := Lib.hid hW; have HZ := Lib.hid hz; have H := Lib.hid h
  clear hW hz
  clear h
  have hnow := now_any p l v us L W h1
  by_cases h40 : nowP l = 40
  · rw [if_pos h40] at hR
    have hc := hG.2 p l v us L W h1 h40
    rw [← hR] at hc
    rw [h40] at hnow
    have HN := Lib.hid hnow; have HC := Lib.hid hc; clear hnow hc h1 hR h40 hG
    go_enter Tryz.func184, Tryz.ntmps184
    go_wp2_with fail
    rw [← HW.out]
    go_wp2_with fail
    refine HN.out.mono ?_
    rintro e w1 ⟨rfl, rfl⟩
    go_wp2_with fail
    refine HC.out.mono ?_
    intro e w2 ho
    cases R with
    | ok r =>
      obtain ⟨t, l'⟩ := r
      obtain ⟨v', us', rfl, h2, hm2⟩ := ho
      have hq9 := hm2
      go_wp2_with (first
        | (refine wpList_store_agg (o := ⟨none, _, _, _, _, _⟩) ?_ 186 (.tmp 4) (.tmp 13) ?_ (w.heap.size) 0 (partL (compP t L).1) ?_ ?_ 186 zP (HZ.out.at' H.out hq9.mv) ?_ ?_ ?_ ?_; rfl; rfl; rfl; rfl; kernel_rfl; (show 0 + 9 ≤ 9; decide); exact partL_one _; intro w9 hw9 hm9 hs9; rw [spl9 _ rfl] at hw9)
        | fail)
      refine bodyPost_cell rfl (w.heap.size) 186 (partL (compP t L).1).toArray rfl hw9 (by kernel_rfl) (by kernel_rfl) rfl ?_
      exact HZ.out.fin H.out h2 hq9 hm9
    | error f =>
      obtain ⟨rfl, hm2⟩ := ho
      have HM2 := Lib.hid hm2; clear hm2
      unfold flE
      go_wp2
      exact ⟨rfl, rfl, HZ.out.err (HM2.out)⟩
  rw [if_neg h40] at hR
  by_cases h91 : nowP l = 91
  · rw [if_pos h91] at hR
    have hc := class_any p l v us L W h1 h91
    rw [← hR] at hc
    rw [h91] at hnow
    have HN := Lib.hid hnow; have HC := Lib.hid hc; clear hnow hc h1 hR h40 h91 hG
    go_enter Tryz.func184, Tryz.ntmps184
    go_wp2_with fail
    rw [← HW.out]
    go_wp2_with fail
    refine HN.out.mono ?_
    rintro e w1 ⟨rfl, rfl⟩
    go_wp2_with fail
    refine HC.out.mono ?_
    intro e w2 ho
    cases R with
    | ok r =>
      obtain ⟨t, l'⟩ := r
      obtain ⟨v', us', rfl, h2, hm2⟩ := ho
      have hq9 := hm2
      go_wp2_with (first
        | (refine wpList_store_agg (o := ⟨none, _, _, _, _, _⟩) ?_ 186 (.tmp 4) (.tmp 17) ?_ (w.heap.size) 0 (partL (compP t L).1) ?_ ?_ 186 zP (HZ.out.at' H.out hq9.mv) ?_ ?_ ?_ ?_; rfl; rfl; rfl; rfl; kernel_rfl; (show 0 + 9 ≤ 9; decide); exact partL_one _; intro w9 hw9 hm9 hs9; rw [spl9 _ rfl] at hw9)
        | fail)
      refine bodyPost_cell rfl (w.heap.size) 186 (partL (compP t L).1).toArray rfl hw9 (by kernel_rfl) (by kernel_rfl) rfl ?_
      exact HZ.out.fin H.out h2 hq9 hm9
    | error f =>
      obtain ⟨rfl, hm2⟩ := ho
      have HM2 := Lib.hid hm2; clear hm2
      unfold flE
      go_wp2
      exact ⟨rfl, rfl, HZ.out.err (HM2.out)⟩
  rw [if_neg h91] at hR
  by_cases h92 : nowP l = 92
  · rw [if_pos h92] at hR
    have hc := escape_any p l v us L W h1 h92
    rw [← hR] at hc
    rw [h92] at hnow
    have HN := Lib.hid hnow; have HC := Lib.hid hc; clear hnow hc h1 hR h40 h91 h92 hG
    go_enter Tryz.func184, Tryz.ntmps184
    go_wp2_with fail
    rw [← HW.out]
    go_wp2_with fail
    refine HN.out.mono ?_
    rintro e w1 ⟨rfl, rfl⟩
    go_wp2_with fail
    refine HC.out.mono ?_
    intro e w2 ho
    cases R with
    | ok r =>
      obtain ⟨t, l'⟩ := r
      obtain ⟨v', us', rfl, h2, hm2⟩ := ho
      have hq9 := hm2
      go_wp2_with (first
        | (refine wpList_store_agg (o := ⟨none, _, _, _, _, _⟩) ?_ 186 (.tmp 4) (.tmp 21) ?_ (w.heap.size) 0 (partL (compP t L).1) ?_ ?_ 186 zP (HZ.out.at' H.out hq9.mv) ?_ ?_ ?_ ?_; rfl; rfl; rfl; rfl; kernel_rfl; (show 0 + 9 ≤ 9; decide); exact partL_one _; intro w9 hw9 hm9 hs9; rw [spl9 _ rfl] at hw9)
        | fail)
      refine bodyPost_cell rfl (w.heap.size) 186 (partL (compP t L).1).toArray rfl hw9 (by kernel_rfl) (by kernel_rfl) rfl ?_
      exact HZ.out.fin H.out h2 hq9 hm9
    | error f =>
      obtain ⟨rfl, hm2⟩ := ho
      have HM2 := Lib.hid hm2; clear hm2
      unfold flE
      go_wp2
      exact ⟨rfl, rfl, HZ.out.err (HM2.out)⟩
  rw [if_neg h92] at hR
  have hnil : ∀ W : World, W.ownsRow (p + 1) 234 2 (.slice none 0 0) 0 [] := fun W => ⟨rfl, .inl ⟨rfl, rfl⟩⟩
  by_cases h46 : nowP l = 46
  · rw [if_pos h46] at hR
    have hn1 : nowP l ≠ -1 := by rw [h46]; decide
    have hp := pass_any p l v us L W h1 hn1
    have hf : L.length + l.tail.length ≤ 256 := by have := tail_lt h1.ok; have := h1.few; omega
    have HA := Lib.hid (fun W (k : PIs W p l.tail v us L) => add_any p _ v us L (.slice none 0 0) [] true W k (hnil W) hf)
    rw [h46] at hnow
    have HN := Lib.hid hnow; have HP := Lib.hid hp; have HR := Lib.hid hR; clear hnow hp h1 hR h40 h91 h92 h46 hG hn1 hf hnil
    go_enter Tryz.func184, Tryz.ntmps184
    go_wp2_with fail
    rw [← HW.out]
    go_wp2_with fail
    refine HN.out.mono ?_
    rintro e w1 ⟨rfl, rfl⟩
    go_wp2_with fail
    refine HP.out.mono ?_
    rintro e w2 ⟨rfl, h2, hm2⟩
    have H2 := Lib.hid h2; have HM2 := Lib.hid hm2; clear h2 hm2
    go_wp2_with fail
    refine (HA.out _ H2.out).mono ?_
    rintro e w3 ⟨v', us', rfl, h3, hm3⟩
    have hq9 := Mvd.then HM2.out hm3
    go_wp2_with (first
      | (refine wpList_store_agg (o := ⟨none, _, _, _, _, _⟩) ?_ 186 (.tmp 4) (.tmp 28) ?_ (w.heap.size) 0 (partL (compP (.set [] true) L).1) ?_ ?_ 186 zP (HZ.out.at' H.out hq9.mv) ?_ ?_ ?_ ?_; rfl; rfl; rfl; rfl; kernel_rfl; (show 0 + 9 ≤ 9; decide); exact partL_one _; intro w9 hw9 hm9 hs9; rw [spl9 _ rfl] at hw9)
      | fail)
    refine bodyPost_cell rfl (w.heap.size) 186 (partL (compP (.set [] true) L).1).toArray rfl hw9 (by kernel_rfl) (by kernel_rfl) rfl ?_
    rw [HR.out]
    exact HZ.out.fin H.out h3 hq9 hm9
  rw [if_neg h46] at hR
  have g40 : (nowP l == 40) = false := by rw [beq_eq_false_iff_ne]; exact h40
  have g91 : (nowP l == 91) = false := by rw [beq_eq_false_iff_ne]; exact h91
  have g92 : (nowP l == 92) = false := by rw [beq_eq_false_iff_ne]; exact h92
  have g46 : (nowP l == 46) = false := by rw [beq_eq_false_iff_ne]; exact h46
  clear h40 h91 h92 h46 hG
  have hle := h1.now_le
  have H1 := Lib.hid h1
  have HNO := Lib.hid (fun W' (m : Below W.heap.size W W') => must_no p l v us L W' (H1.out.below m))
  by_cases h0 : 0 ≤ nowP l
  · have hc := signs_any (nowP l) W h0 hle
    cases hk : specialP (nowP l) with
    | true =>
      rw [if_neg (by rw [hk]; simp)] at hR
      rw [hk] at hc
      have HC := Lib.hid hc; have HN := Lib.hid hnow; have HR := Lib.hid hR; clear hc hnow hR hk h1 hnil
      generalize nowP l = c at *
      generalize atP l = a at HNO HR
      go_enter Tryz.func184, Tryz.ntmps184
      go_wp2_with fail
      rw [← HW.out]
      go_wp2_with fail
      refine HN.out.mono ?_
      rintro e w1 ⟨rfl, rfl⟩
      go_wp2_with fail
      refine HC.out.mono ?_
      rintro e w3 ⟨rfl, hb3⟩
      have HB3 := Lib.hid hb3; clear hb3
      go_wp2_with fail
      refine (HNO.out _ HB3.out).mono ?_
      rintro e w4 ⟨rfl, rfl⟩
      go_wp2
      rw [HR.out]
      exact ⟨rfl, rfl, HZ.out.err (Mv.of_below HB3.out _)⟩
    | false =>
      rw [if_pos (by rw [decide_eq_true h0, hk]; rfl)] at hR
      have hn1 : nowP l ≠ -1 := by omega
      rw [hk] at hc
      have hf : L.length + l.tail.length ≤ 256 := by have := tail_lt h1.ok; have := h1.few; omega
      have HPP := Lib.hid (fun W' (m : Below W.heap.size W W') => pass_any p l v us L W' (H1.out.below m) hn1)
      have HYY := Lib.hid (fun W => must_yes p W)
      have HA := Lib.hid (fun c W u (k : PIs W p l.tail v us L) k2 => add_any p _ v us L u [(c, c)] false W k k2 hf)
      have HC := Lib.hid hc; have HN := Lib.hid hnow; have HR := Lib.hid hR; clear hc hnow hR hk hn1 h1 hnil hf
      generalize nowP l = c at *
      go_enter Tryz.func184, Tryz.ntmps184
      go_wp2_with fail
      rw [← HW.out]
      go_wp2_with fail
      refine HN.out.mono ?_
      rintro e w1 ⟨rfl, rfl⟩
      go_wp2_with fail
      refine HC.out.mono ?_
      rintro e w3 ⟨rfl, hb3⟩
      have HB3 := Lib.hid hb3; clear hb3
      go_wp2_with fail
      refine (HYY.out _).mono ?_
      rintro e w4 ⟨rfl, rfl⟩
      go_wp2_with fail
      refine (HPP.out _ HB3.out).mono ?_
      rintro e w5 ⟨rfl, h5, hm5⟩
      have hb : RowKit.Below w5.heap.size w5 (w5.alloc (.cells #[.int .i32 c, .int .i32 c] 234)) := (RowKit.Below.refl _ w5).alloc (Nat.le_refl _) _
      have hlt5 := h5.lt
      have HAA := Lib.hid (HA.out c _ _ (h5.below hb) ((own_fresh (w := w5) (e := 234) (size := 2) (n := 1) (xs := [.int .i32 c, .int .i32 c]) rfl (by decide)).lower (by omega)))
      have HM5 := Lib.hid ((Mvd.of_below (p := p) (v := v) HB3.out).trans ((Mvd.box hm5).trans (Mvd.of_below hb))); clear hm5 h5 hb HA
      go_wp2_with fail
      refine HAA.out.mono ?_
      rintro e w6 ⟨v', us', rfl, h6, hm6⟩
      have hq9 := HM5.out.trans hm6
      go_wp2_with (first
        | (refine wpList_store_agg (o := ⟨none, _, _, _, _, _⟩) ?_ 186 (.tmp 4) (.tmp 46) ?_ (w.heap.size) 0 (partL (compP (.set [(c, c)] false) L).1) ?_ ?_ 186 zP (HZ.out.at' H.out hq9.mv) ?_ ?_ ?_ ?_; rfl; rfl; rfl; rfl; kernel_rfl; (show 0 + 9 ≤ 9; decide); exact partL_one _; intro w9 hw9 hm9 hs9; rw [spl9 _ rfl] at hw9)
        | fail)
      refine bodyPost_cell rfl (w.heap.size) 186 (partL (compP (.set [(c, c)] false) L).1).toArray rfl hw9 (by kernel_rfl) (by kernel_rfl) rfl ?_
      rw [HR.out]
      exact HZ.out.fin H.out h6 hq9 hm9
  · rw [if_neg (by rw [decide_eq_false h0]; simp)] at hR
    have HN := Lib.hid hnow; have HR := Lib.hid hR; clear hnow hR h1 hnil
    have HN2 := Lib.hid (HNO.out W (RowKit.Below.refl _ _))
    have h0' : nowP l < 0 := by omega
    generalize nowP l = c at *
    generalize atP l = a at HN2 HR
    clear HNO
    go_enter Tryz.func184, Tryz.ntmps184
    go_wp2_with fail
    rw [← HW.out]
    go_wp2_with fail
    refine HN.out.mono ?_
    rintro e w1 ⟨rfl, rfl⟩
    go_wp2_with fail
    refine HN2.out.mono ?_
    rintro e w4 ⟨rfl, rfl⟩
    go_wp2
    rw [HR.out]
    exact ⟨rfl, rfl, HZ.out.err (Mv.refl _ _)⟩
end
end
end
end Go.Proofs.YtjgappbomohlcaaGreatDoor
