/-
  A member of a class.
  Atoms in memory with other followers.
-/
import Derived.Laws.Cover3
import Derived.Test.YtfohmepjedehfabQg
namespace Go.Proofs.Ytfohmepjedehfab
set_option linter.unusedVariables false
set_option linter.unusedSimpArgs false
section
set_option linter.unusedVariables false
set_option linter.unusedSimpArgs false
open Go.RowKit
theorem now_small {l : List Pc} (h : ∀ q ∈ l, q.2 ≤ 1114111) : nowP l ≤ 1114111 := by
  cases l with
  | nil => simp [nowP]
  | cons q t => exact h q List.mem_cons_self
theorem singleP_le {w : World} {p : Nat} {l : List Pc} {v : Value} {us : List Value} {L : List Atm} (h : PIs w p l v us L) {least c : Int} {l1 : List Pc} (e : singleP least l = .ok (c, l1)) : c ≤ 1114111 := by
  have h0 : ∀ q ∈ l, q.2 ≤ 1114111 := fun q hq => (h.small q hq).2.2
  unfold singleP at e
  split at e
  · unfold rescP at e
    split at e
    · split at e
      · injection e with e; injection e with e _; rw [← e]; exact now_small fun q hq => h0 q (List.mem_of_mem_tail hq)
      · cases e
    · cases e
  · split at e
    · injection e with e; injection e with e _; rw [← e]; exact now_small h0
    · cases e
theorem ne_nil (a : Option Addr) (l c : Nat) (W : World) : (binOp .neq 98 (.slice a l c) (.slice none 0 0)).run Try.prog W = .ok (.bool (!a.isNone)) W := run_neq_slice_nil _ _ _ _ _ _ Try.underlying98
def OutS (p : Nat) (v : Value) (us : List Value) (L : List Atm) (w : World) (r : Rs Spans) (e : Ending) (w' : World) : Prop :=
  match r with
  | .ok (g, l') => ∃ b n c, e = .returned (.slice (some ⟨b, 0, none⟩) n c) ∧ n = g.length ∧ w'.ownsRow w.heap.size 128 2 (.slice (some ⟨b, 0, none⟩) n c) n (spC g) ∧ PIs w' p l' v us L ∧ Mv (fun k => k = p) w w'
  | .error f => e = flE f ∧ Mv (fun k => k = p) w w'
theorem PIs.next {w : World} {p : Nat} {l : List Pc} {v : Value} {us : List Value} {L : List Atm} (h : PIs w p l v us L) (hn : nowP l ≠ -1) :
    ∃ pb off c, w.heap[p]? = some (.cells #[.slice (some ⟨pb, off, none⟩) l.length c, v] 112 (0, 0)) ∧ 1 < l.length ∧ w.cell? ⟨pb, off + 2 + 1, none⟩ = some (.int .i32 (nowP l.tail)) := by
  have h2 := h.more hn
  obtain ⟨pb, off, c, hb, _, _, _, hr⟩ := h.box
  obtain ⟨q, t, rfl⟩ : ∃ q t, l = q :: t := by
    cases l with
    | nil => simp at h2
    | cons q t => exact ⟨q, t, rfl⟩
  obtain ⟨q2, t, rfl⟩ : ∃ q t', t = q :: t' := by
    cases t with
    | nil => simp at h2
    | cons q t => exact ⟨q, t, rfl⟩
  refine ⟨pb, off, c, hb, by simp, ?_⟩
  obtain ⟨b, o, e, hc⟩ := hr 3 (.int .i32 q2.2) rfl
  injection e with e; injection e with e1 e2; subst e1; subst e2
  exact hc
section
set_option maxHeartbeats 1600000
set_option maxRecDepth 100000
theorem many_none (p : Nat) (l : List Pc) (v : Value) (us : List Value) (L : List Atm) (w : World) (h : PIs w p l v us L) (hm : manyL l = none) : Calls Try.prog 107 #[.pointer (some ⟨p, 0, none⟩)] w fun e w' => e = .returned (.slice none 0 0) ∧ w' = w := by
  have hnow := now_any p l v us L w h
  unfold manyL at hm
  by_cases h92 : nowP l = 92
  · rw [if_pos h92] at hm
    obtain ⟨pb, off, c, hb, hl, c3⟩ := h.next (by rw [h92]; decide)
    have b0 := cell_blk hb 0
    simp only [List.getElem?_toArray, List.getElem?_cons_zero] at b0
    have hs := several_none (nowP l.tail) w hm
    rw [h92] at hnow
    generalize nowP l.tail = x at c3 hs
    have hl' : (1 : Int) < (l.length : Int) := by omega
    have HN := Lib.hid hnow; have HS := Lib.hid hs; clear hnow hs h hb hl hm
    have hne := fun W => ne_nil none 0 0 W
    simp only [Option.isNone_none, Bool.not_true] at hne
    go_enter Try.func107, Try.ntmps107
    go_wp2_with fail
    refine HN.out.mono ?_
    rintro e w1 ⟨rfl, rfl⟩
    go_wp2_with fail
    refine HS.out.mono ?_
    rintro e w2 ⟨rfl, rfl⟩
    go_wp2
    go_ret
    exact ⟨rfl, rfl⟩
  · have g92 : (nowP l != 92) = true := by rw [bne_iff_ne]; exact h92
    generalize nowP l = x at hnow g92
    have HN := Lib.hid hnow; clear hnow h hm h92
    go_enter Try.func107, Try.ntmps107
    go_wp2_with fail
    refine HN.out.mono ?_
    rintro e w1 ⟨rfl, rfl⟩
    go_wp2
    go_ret
    exact ⟨rfl, rfl⟩
theorem many_some (p : Nat) (l : List Pc) (v : Value) (us : List Value) (L : List Atm) (g : Spans) (w : World) (h : PIs w p l v us L) (hm : manyL l = some g) : Calls Try.prog 107 #[.pointer (some ⟨p, 0, none⟩)] w fun e w' => OutS p v us L w (.ok (g, l.tail.tail)) e w' := by
  have hnow := now_any p l v us L w h
  obtain ⟨hsh, h92, hn1⟩ := manyL_some h.ok hm
  have hn0 : nowP l ≠ -1 := by rw [h92]; decide
  unfold manyL at hm
  rw [if_pos h92] at hm
  obtain ⟨pb, off, c, hb, hl, c3⟩ := h.next hn0
  have b0 := cell_blk hb 0
  simp only [List.getElem?_toArray, List.getElem?_cons_zero] at b0
  have hs := several_some (nowP l.tail) g w hm
  rw [h92] at hnow
  have HP := Lib.hid (fun W (m : Below w.heap.size w W) => pass_any p l v us L W (h.below m) hn0)
  have HP2 := Lib.hid (fun W (k : PIs W p l.tail v us L) => pass_any p l.tail v us L W k hn1)
  have hlt := h.lt
  generalize nowP l.tail = x at c3 hs
  have hl' : (1 : Int) < (l.length : Int) := by omega
  have HN := Lib.hid hnow; have HS := Lib.hid hs; clear hnow hs h hb hl hm hsh hn0 hn1
  have hne := fun b l c W => ne_nil (some ⟨b, 0, none⟩) l c W
  simp only [Option.isNone_some, Bool.not_false] at hne
  go_enter Try.func107, Try.ntmps107
  go_wp2_with fail
  refine HN.out.mono ?_
  rintro e w1 ⟨rfl, rfl⟩
  go_wp2_with fail
  refine HS.out.mono ?_
  rintro e w2 ⟨rfl, ho, hb2⟩
  have HO := Lib.hid ho; have HB := Lib.hid hb2; clear ho hb2
  go_wp2_with fail
  refine (HP.out _ HB.out).mono ?_
  rintro e w3 ⟨rfl, h3, hm3⟩
  have H3 := Lib.hid h3; have HM3 := Lib.hid hm3; clear h3 hm3
  go_wp2_with fail
  refine (HP2.out _ H3.out).mono ?_
  rintro e w4 ⟨rfl, h4, hm4⟩
  go_wp2
  go_ret
  have hm : Mv (fun k => k = p) w2 w4 := HM3.out.trans hm4 fun _ _ h => h
  refine ⟨_, _, _, rfl, rfl, own_mv HO.out hm fun k hk e => ?_, h4, (Mv.of_below HB.out _).trans hm fun _ _ h => h⟩
  have := (HO.out.lt k hk).1
  omega
theorem member_any (p : Nat) (l : List Pc) (v : Value) (us : List Value) (L : List Atm) (w : World) (h : PIs w p l v us L) :
    Calls Try.prog 106 #[.pointer (some ⟨p, 0, none⟩)] w (OutS p v us L w (memberP l)) := by
  obtain ⟨R, hR⟩ : ∃ R, R = memberP l := ⟨_, rfl⟩
  rw [← hR]
  unfold memberP at hR
  cases hm : manyL l with
  | some g =>
    rw [hm] at hR
    have HM := Lib.hid (many_some p l v us L g w h hm)
    have HR := Lib.hid hR
    have hne := fun b l c W => ne_nil (some ⟨b, 0, none⟩) l c W
    simp only [Option.isNone_some, Bool.not_false] at hne
    clear hR hm h
    go_enter Try.func106, Try.ntmps106
    go_wp2_with fail
    refine HM.out.mono ?_
    rintro e w1 ⟨b, n, c, rfl, hn, ho⟩
    have HO := Lib.hid (And.intro hn ho); clear hn ho
    go_wp2
    go_ret
    rw [HR.out]
    exact ⟨b, n, c, rfl, HO.out⟩
  | none =>
    rw [hm] at hR
    simp only at hR
    have HM := Lib.hid (many_none p l v us L w h hm)
    have hne := fun W => ne_nil none 0 0 W
    simp only [Option.isNone_none, Bool.not_true] at hne
    have hs := single_any p l v us L 0 w h (by decide) (by decide)
    have hshr := fun c l1 (e : singleP 0 l = .ok (c, l1)) => singleP_shr h.ok (by decide) e
    have HSH := Lib.hid hshr
    have hle0 := fun c l1 (e : singleP 0 l = .ok (c, l1)) => singleP_le h e
    have HL0 := Lib.hid hle0; clear hshr hm h hle0
    generalize singleP 0 l = r1 at hs hR HSH HL0
    have HS := Lib.hid hs; clear hs
    cases r1 with
    | error f =>
      have HR := Lib.hid hR; clear hR
      go_enter Try.func106, Try.ntmps106
      go_wp2_with fail
      refine HM.out.mono ?_
      rintro e w1 ⟨rfl, rfl⟩
      go_wp2_with fail
      refine HS.out.mono ?_
      rintro e w2 ⟨rfl, hm2⟩
      have HM2 := Lib.hid hm2; clear hm2
      unfold flE
      go_wp2
      rw [HR.out]
      exact ⟨rfl, rfl, HM2.out⟩
    | ok x =>
      obtain ⟨lo, l1⟩ := x
      simp only at hR
      have hlo := (HSH.out lo l1 rfl).2.2
      have HLE := Lib.hid (HL0.out lo l1 rfl)
      have HR := Lib.hid hR; clear hR HSH HL0
      go_enter Try.func106, Try.ntmps106
      go_wp2_with fail
      refine HM.out.mono ?_
      rintro e w1 ⟨rfl, rfl⟩
      go_wp2_with fail
      refine HS.out.mono ?_
      rintro e w2 ⟨rfl, h2, hm2⟩
      have HM2 := Lib.hid hm2; have H2 := Lib.hid h2; clear hm2 h2
      have HN := Lib.hid (now_any p l1 v us L w2 H2.out)
      have hle := HLE.out
      by_cases h45 : nowP l1 = 45
      · have hR := HR.out
        rw [if_pos h45] at hR
        have hn1 : nowP l1 ≠ -1 := by rw [h45]; decide
        have HP := Lib.hid (pass_any p l1 v us L w2 H2.out hn1)
        have HS2 := Lib.hid (fun W (k : PIs W p l1.tail v us L) => single_any p l1.tail v us L lo W k hlo hle)
        have hN := HN.out
        rw [h45] at hN
        have HNN := Lib.hid hN
        clear HR HN hN hn1 h45
        generalize singleP lo l1.tail = r2 at HS2 hR
        have HRR := Lib.hid hR; clear hR
        go_wp2_with fail
        refine HNN.out.mono ?_
        rintro e w3 ⟨rfl, rfl⟩
        go_wp2_with fail
        refine HP.out.mono ?_
        rintro e w4 ⟨rfl, h4, hm4⟩
        have H4 := Lib.hid h4; have HM4 := Lib.hid hm4; clear h4 hm4
        cases r2 with
        | error f =>
          have HR := Lib.hid HRR.out
          go_wp2_with fail
          refine (HS2.out _ H4.out).mono ?_
          rintro e w5 ⟨rfl, hm5⟩
          have HM5 := Lib.hid hm5; clear hm5
          unfold flE
          go_wp2
          rw [HR.out]
          exact ⟨rfl, rfl, (HM2.out.trans HM4.out fun _ _ h => h).trans HM5.out fun _ _ h => h⟩
        | ok y =>
          obtain ⟨hi, l2⟩ := y
          have hR := HRR.out
          simp only at hR
          have HR := Lib.hid hR; clear hR HRR
          go_wp2_with fail
          refine (HS2.out _ H4.out).mono ?_
          rintro e w5 ⟨rfl, h5, hm5⟩
          have HM5 := Lib.hid hm5; have H5 := Lib.hid h5; clear hm5 h5
          go_wp2
          go_ret
          rw [HR.out]
          have hmm := (HM2.out.trans HM4.out fun _ _ h => h).trans HM5.out fun _ _ h => h
          have hb : RowKit.Below w5.heap.size w5 (w5.alloc (.cells #[.int .i32 lo, .int .i32 hi] 128)) := (RowKit.Below.refl _ w5).alloc (Nat.le_refl _) _
          exact ⟨_, _, _, rfl, rfl, (own_fresh (w := w5) (e := 128) (size := 2) (n := 1) (xs := [.int .i32 lo, .int .i32 hi]) rfl (by decide)).lower hmm.size, H5.out.below hb, hmm.alloc _⟩
      · have hR := HR.out
        rw [if_neg h45] at hR
        have g45 : (nowP l1 == 45) = false := by rw [beq_eq_false_iff_ne]; exact h45
        have HRR := Lib.hid hR
        generalize nowP l1 = c at g45 HN
        clear HR hR h45
        go_wp2_with fail
        refine HN.out.mono ?_
        rintro e w3 ⟨rfl, rfl⟩
        go_wp2
        go_ret
        rw [HRR.out]
        have hb : RowKit.Below w3.heap.size w3 (w3.alloc (.cells #[.int .i32 lo, .int .i32 lo] 128)) := (RowKit.Below.refl _ w3).alloc (Nat.le_refl _) _
        exact ⟨_, _, _, rfl, rfl, (own_fresh (w := w3) (e := 128) (size := 2) (n := 1) (xs := [.int .i32 lo, .int .i32 lo]) rfl (by decide)).lower HM2.out.size, H2.out.below hb, HM2.out.alloc _⟩
end
end
section
set_option linter.unusedVariables false
set_option linter.unusedSimpArgs false
open Go.RowKit
/-- A cell of a row of one's own with another value. -/
theorem own_set {w : World} {B : Nat} {e : TypeId} {size n cap g : Nat} {xs : List Value} (h : w.ownsRow B e size (.slice (some ⟨g, 0, none⟩) n cap) n xs) {j : Nat} (hj : j < n * size) (x : Value) :
    (w.setCell ⟨g, j, none⟩ x).ownsRow B e size (.slice (some ⟨g, 0, none⟩) n cap) n (xs.set j x) := by
  obtain ⟨hl, h2⟩ := h
  refine ⟨by rw [List.length_set]; exact hl, ?_⟩
  rcases h2 with ⟨e1, _⟩ | ⟨g', cap', cur, e1, hB, hh, hn, hc, hs, ht⟩
  · cases e1
  · injection e1 with e1 e2 e3
    injection e1 with e1; injection e1 with e1
    subst e1
    refine .inr ⟨g, cap', _, by rw [e3], hB, set_blk hh j x, hn, hc, by simpa using hs, ?_⟩
    rw [Array.toList_setIfInBounds, List.take_set, ht]
theorem atC_len (u : Value) (a : Atm) : (atC u a).length = 6 := rfl
theorem atsC_get : ∀ (us : List Value) (L : List Atm) (i : Nat) (u : Value) (a : Atm), us[i]? = some u → L[i]? = some a → ∀ j, j < 6 → (atsC us L)[i * 6 + j]? = (atC u a)[j]?
  | u :: us, a :: L, 0, u', a', hu, ha, j, hj => by
    simp at hu ha; subst hu; subst ha
    rw [atsC, Nat.zero_mul, Nat.zero_add, List.getElem?_append_left (by rw [atC_len]; exact hj)]
  | u :: us, a :: L, i + 1, u', a', hu, ha, j, hj => by
    simp only [List.getElem?_cons_succ] at hu ha
    rw [atsC, List.getElem?_append_right (by rw [atC_len]; omega), atC_len, ← atsC_get us L i u' a' hu ha j hj]
    congr 1; omega
  | [], _, i, _, _, hu, _, _, _ => by simp at hu
  | _ :: _, [], i, _, _, _, ha, _, _ => by simp at ha
def nextC (n : Nat) (i : Nat) (xs : List Value) : List Value := (((xs.set (i * 6 + 2) (.int .u64 (wd n 0 : Nat))).set (i * 6 + 3) (.int .u64 (wd n 1 : Nat))).set (i * 6 + 4) (.int .u64 (wd n 2 : Nat))).set (i * 6 + 5) (.int .u64 (wd n 3 : Nat))
theorem nextC_cons (n i : Nat) (x0 x1 x2 x3 x4 x5 : Value) (xs : List Value) : nextC n (i + 1) ([x0, x1, x2, x3, x4, x5] ++ xs) = [x0, x1, x2, x3, x4, x5] ++ nextC n i xs := by
  unfold nextC
  have e : ∀ k, (i + 1) * 6 + k = i * 6 + k + 6 := fun k => by omega
  simp only [e, List.cons_append, List.nil_append, List.set_cons_succ]
theorem atsC_next : ∀ (us : List Value) (L : List Atm) (i : Nat) (a : Atm) (n : Nat), us.length = L.length → L[i]? = some a → nextC n i (atsC us L) = atsC us (L.set i { a with next := n })
  | u :: us, a :: L, 0, a', n, hl, ha => by
    simp at ha; subst ha
    rfl
  | u :: us, a :: L, i + 1, a', n, hl, ha => by
    simp only [List.getElem?_cons_succ] at ha
    rw [List.set_cons_succ, atsC, atsC, ← atsC_next us L i a' n (by simpa using hl) ha]
    exact nextC_cons n i _ _ _ _ _ _ _
  | _, [], i, _, _, _, ha => by simp at ha
  | [], _ :: _, _, _, _, hl, _ => by simp at hl
/-- Followed as far as atom k. -/
def folK (these nx k : Nat) (L : List Atm) : List Atm := (followP these nx L).take k ++ L.drop k
theorem folK_zero (these nx : Nat) (L : List Atm) : folK these nx 0 L = L := by simp [folK]
theorem folP_len (these nx : Nat) : ∀ (A : List Atm) (k : Nat), (followF these nx k A).length = A.length
  | [], k => rfl
  | a :: t, k => by simp [followF, folP_len these nx t (k + 1)]
theorem folK_all (these nx : Nat) (L : List Atm) : folK these nx L.length L = followP these nx L := by
  unfold folK
  rw [List.drop_length, List.append_nil, List.take_of_length_le]
  unfold followP; rw [folP_len]; exact Nat.le_refl _
theorem folK_len (these nx k : Nat) (L : List Atm) (hk : k ≤ L.length) : (folK these nx k L).length = L.length := by
  have : (followP these nx L).length = L.length := folP_len _ _ _ _
  unfold folK
  rw [List.length_append, List.length_take, List.length_drop, this]; omega
theorem folF_get (these nx : Nat) : ∀ (A : List Atm) (k i : Nat), (followF these nx k A)[i]? = (A[i]?).map fun a => if these.testBit (k + i) then { a with next := a.next ||| nx } else a
  | [], k, i => by simp [followF]
  | a :: t, k, 0 => by simp [followF]
  | a :: t, k, i + 1 => by
    simp only [followF, List.getElem?_cons_succ]
    rw [folF_get these nx t (k + 1) i, show k + 1 + i = k + (i + 1) by omega]
theorem folK_at (these nx : Nat) {k : Nat} {L : List Atm} {a : Atm} (h : L[k]? = some a) : (folK these nx k L)[k]? = some a := by
  have hk := (List.getElem?_eq_some_iff.mp h).1
  have : (followP these nx L).length = L.length := folP_len _ _ _ _
  unfold folK
  rw [List.getElem?_append_right (by rw [List.length_take]; omega), List.length_take, List.getElem?_drop, this, show k + (k - min k L.length) = k by omega, h]
theorem folK_step (these nx : Nat) {k : Nat} {L : List Atm} {a : Atm} (h : L[k]? = some a) : folK these nx (k + 1) L = (folK these nx k L).set k (if these.testBit k then { a with next := a.next ||| nx } else a) := by
  have hk := (List.getElem?_eq_some_iff.mp h).1
  have hl : (followP these nx L).length = L.length := folP_len _ _ _ _
  have hg : (followP these nx L)[k]? = some (if these.testBit k then { a with next := a.next ||| nx } else a) := by
    unfold followP; rw [folF_get, h, Nat.zero_add]; rfl
  unfold folK
  rw [List.take_add_one, hg, List.set_append_right _ _ (by rw [List.length_take]; omega), List.length_take, hl, show k - min k L.length = 0 by omega, List.drop_eq_getElem_cons hk, List.set_cons_zero, List.append_assoc]
  rfl
theorem folK_same (these nx : Nat) {k : Nat} {L : List Atm} {a : Atm} (h : L[k]? = some a) (hf : these.testBit k = false) : folK these nx (k + 1) L = folK these nx k L := by
  rw [folK_step these nx h, hf]
  simp only [Bool.false_eq_true, if_false]
  apply List.ext_getElem?
  intro i
  rw [List.getElem?_set]
  split
  · rename_i e; subst e
    rw [folK_at these nx h]
    split
    · rfl
    · rename_i hx
      rw [folK_len these nx k L (by have := (List.getElem?_eq_some_iff.mp h).1; omega)] at hx
      exact absurd (List.getElem?_eq_some_iff.mp h).1 hx
  · rfl
theorem folK_sp (these nx k : Nat) {L : List Atm} {i : Nat} {a : Atm} (h : (folK these nx k L)[i]? = some a) : ∃ b, L[i]? = some b ∧ b.sp = a.sp := by
  have hl : (followP these nx L).length = L.length := folP_len _ _ _ _
  unfold folK at h
  by_cases hi : i < min k L.length
  · rw [List.getElem?_append_left (by rw [List.length_take, hl]; exact hi), List.getElem?_take, if_pos (by omega)] at h
    unfold followP at h
    rw [folF_get] at h
    cases hb : L[i]? with
    | none => rw [hb] at h; cases h
    | some b =>
      rw [hb] at h
      simp only [Option.map_some, Option.some.injEq] at h
      refine ⟨b, rfl, ?_⟩
      rw [← h]; split <;> rfl
  · rw [List.getElem?_append_right (by rw [List.length_take, hl]; omega), List.length_take, List.getElem?_drop, hl] at h
    refine ⟨a, ?_, rfl⟩
    rw [← h]
    have : i < L.length ∨ ¬ i < L.length := by omega
    rcases this with hlt | hlt
    · congr 1; omega
    · rw [List.getElem?_eq_none (by omega), List.getElem?_eq_none (by omega)]
end
end Go.Proofs.Ytfohmepjedehfab
