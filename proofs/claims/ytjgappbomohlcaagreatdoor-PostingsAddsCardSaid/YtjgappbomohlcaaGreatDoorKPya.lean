/-
  The plain answers' index in memory: a list of series; where one is, which one has labels, which labels it has.
-/
import Derived.Test.YtjgappbomohlcaaGreatDoorK01
import Derived.Test.YtjgappbomohlcaaGreatDoorKPi
import Derived.Test.YtjgappbomohlcaaGreatDoorK02
namespace Go.Proofs.YtjgappbomohlcaaGreatDoor
section
set_option linter.unusedVariables false
set_option linter.unusedSimpArgs false
open Go.RowKit
structure RSr where
  n : Nat
  ls : List Lb
  A : Option Addr
  c : Nat
def rsv (s : RSr) : Ser := (s.n, s.ls)
def rsC (s : RSr) : List Value := [.int .u64 (s.n : Nat), .slice s.A s.ls.length s.c]
theorem rsC_len (s : RSr) : (rsC s).length = 2 := rfl
theorem rsC_one (s : RSr) : ∀ u ∈ rsC s, u.oneCell' = true := by
  intro u hu
  unfold rsC at hu
  simp only [List.mem_cons, List.not_mem_nil, or_false] at hu
  rcases hu with rfl | rfl <;> rfl
/-- Block p is a plain index of these series; S holds its blocks. -/
structure RixE (w : World) (p : Nat) (S : Nat → Prop) (v : Value) (ys : List RSr) : Prop where
  box : w.heap[p]? = some (.cells #[v] 34 (0, 0))
  row : w.ownsRow 0 84 2 v ys.length (ys.flatMap rsC)
  at_ : ∀ y ∈ ys, Rd w y.A (lcells y.ls)
  sp : S p
  sv : ∀ k, v.ownBlock = some k → S k
  sl : ∀ y ∈ ys, ∀ k, y.A.map (·.block) = some k → S k ∧ k ≠ p ∧ v.ownBlock ≠ some k
  al : ∀ k, S k → k < w.heap.size
  few : ys.length ≤ 4096
  each : ∀ y ∈ ys, rightP y.ls = 0 ∧ y.n < 18446744073709551616
section
variable {w w1 : World} {p : Nat} {S : Nat → Prop} {v : Value} {ys : List RSr}
theorem RixE.moved (h : RixE w p S v ys) (hs : w.heap.size ≤ w1.heap.size) (hk : ∀ k, S k → w1.heap[k]? = w.heap[k]?) : RixE w1 p S v ys where
  box := (hk p h.sp).trans h.box
  row := own_moved h.row fun g hg => hk g (h.sv g hg)
  at_ y hy := (h.at_ y hy).blk fun b _ hb => hk b (h.sl y hy b hb).1
  sp := h.sp
  sv := h.sv
  sl := h.sl
  al k hk' := Nat.lt_of_lt_of_le (h.al k hk') hs
  few := h.few
  each := h.each
theorem RixE.below (h : RixE w p S v ys) (hb : Below w.heap.size w w1) : RixE w1 p S v ys := h.moved hb.size fun k hk => hb.block k (h.al k hk)
theorem own_rd_s {w : World} {B : Nat} {v : Value} {l : List RSr} (h : w.ownsRow B 84 2 v l.length (l.flatMap rsC)) : ∃ A c, v = .slice A l.length c ∧ Rd w A (l.flatMap rsC) ∧ l.length ≤ c ∧ c ≤ maxLen := by
  rcases h.2 with ⟨rfl, h0⟩ | ⟨g, cap, cur, rfl, hB, hg, hnc, hcm, hcs, htk⟩
  · have : l = [] := List.eq_nil_of_length_eq_zero h0
    subst this
    exact ⟨none, 0, rfl, Rd.nil _ _, Nat.le_refl _, by decide⟩
  · refine ⟨some ⟨g, 0, none⟩, cap, rfl, fun k u hk => ?_, hnc, hcm⟩
    have := h.cells (g := g) rfl k u hk
    have hadd : (⟨g, 0, none⟩ : Addr).add k = ⟨g, k, none⟩ := by unfold Addr.add; split <;> simp_all
    exact ⟨g, 0, rfl, by rw [hadd] at this; simpa using this⟩
theorem rs_take {L : List RSr} {k : Nat} {y : RSr} (h : L[k]? = some y) {q : RSr → Prop} (ha : ∀ x ∈ L.take k, q x) (hy : q y) : ∀ x ∈ L.take (k + 1), q x := by
  obtain ⟨h1, h2⟩ := List.getElem?_eq_some_iff.1 h
  intro x hx
  rw [List.take_succ_eq_append_getElem h1, h2] at hx
  rcases List.mem_append.1 hx with hx | hx
  · exact ha x hx
  · rw [List.mem_singleton.1 hx]; exact hy
section
set_option maxHeartbeats 1600000
set_option maxRecDepth 100000
theorem place_any (h : RixE w p S v ys) (n : Nat) (hn : n < 18446744073709551616) : Calls Tryz.prog 49 #[.pointer (some ⟨p, 0, none⟩), .int .u64 (n : Nat)] w fun e w' =>
    ((e = .returned (.int .i64 (-1)) ∧ ∀ y ∈ ys, y.n ≠ n) ∨ ∃ (k : Nat) (y : RSr), ys[k]? = some y ∧ y.n = n ∧ e = .returned (.int .i64 (k : Nat))) ∧ Below w.heap.size w w' := by
  have hl := h.few
  obtain ⟨A, c, rfl, hr, hc1, hc2⟩ := own_rd_s h.row
  unfold maxLen at hc2
  have HR := Lib.hid hr
  have c0 := cell_blk h.box 0
  simp only [List.getElem?_toArray, List.getElem?_cons_succ, List.getElem?_cons_zero] at c0
  clear hr h
  go_enter Tryz.func49, Tryz.ntmps49
  go_wp2
  go_loopw [12] (fun s12 wr => ∃ k : Nat, s12 = .int .i64 k ∧ k ≤ ys.length ∧ Aside (∀ y ∈ ys.take k, y.n ≠ n) ∧ Aside (Below w.heap.size w wr)) (fun s12 _ => ys.length - (intOf s12).toNat)
  case atStart => exact ⟨0, rfl, by omega, fun y hy => by simp at hy, Below.refl _ _⟩
  case round =>
    obtain ⟨k, rfl, hk, AL, BW⟩ := hrel
    have k0 : (0 : Int) ≤ (k : Int) := by omega
    by_cases hlt : k < ys.length
    · have k1 : (k : Int) < (ys.length : Int) := by omega
      obtain ⟨y, hy⟩ : ∃ y, ys[k]? = some y := ⟨_, List.getElem?_eq_getElem hlt⟩
      obtain ⟨b, off, rfl, hcl⟩ := (HR.out.below BW.out).flat rsC_len (by decide) hy
      have d0 := hcl 0 _ rfl; have d1 := hcl 1 _ rfl
      rw [Nat.add_zero] at d0
      obtain ⟨m, hm⟩ : ∃ m, m = y.ls.length := ⟨_, rfl⟩
      rw [← hm] at d1
      have HBB := Lib.hid (BW.out.alloc BW.out.size (.cells #[.int .u64 (y.n : Nat), .slice y.A m y.c] 84))
      have HY := Lib.hid hy
      have HAL := Lib.hid (fun e : y.n ≠ n => rs_take (q := fun y => y.n ≠ n) hy AL.out e)
      clear hcl hy hm
      by_cases he : y.n = n
      · have t1 : ((y.n : Int) == (n : Int)) = true := by rw [beq_iff_eq]; omega
        have HN := Lib.hid he; clear he
        go_wp2_with fail
        go_ret
        exact ⟨.inr ⟨k, y, HY.out, HN.out, rfl⟩, HBB.out⟩
      · have t1 : ((y.n : Int) == (n : Int)) = false := by rw [beq_eq_false_iff_ne]; omega
        have HN := Lib.hid he; clear he
        go_wp2_with fail
        go_roundw
        case rel => exact ⟨k + 1, by go_num, by omega, HAL.out HN.out, HBB.out⟩
        case measure => simp [intOf]; omega
    · obtain rfl : k = ys.length := by omega
      have HA := Lib.hid AL.out; have HB := Lib.hid BW.out
      go_wp2
      go_ret
      exact ⟨.inl ⟨rfl, fun y hy => HA.out y (by rw [List.take_length]; exact hy)⟩, HB.out⟩
theorem refAt_not {L : List RSr} {l : List Lb} (h : ∀ y ∈ L, y.ls ≠ l) : refAt (L.map rsv) l = none := by
  unfold refAt
  rw [Option.map_eq_none_iff, List.find?_eq_none]
  intro s hs
  obtain ⟨y, hy, rfl⟩ := List.mem_map.1 hs
  simp only [decide_eq_true_eq]; exact h y hy
theorem refAt_first {L : List RSr} {l : List Lb} {k : Nat} {y : RSr} (h : L[k]? = some y) (ha : ∀ x ∈ L.take k, x.ls ≠ l) (hy : y.ls = l) : refAt (L.map rsv) l = some y.n := by
  obtain ⟨h1, h2⟩ := List.getElem?_eq_some_iff.1 h
  have e : L = L.take k ++ y :: L.drop (k + 1) := by
    rw [← h2, ← List.drop_eq_getElem_cons h1, List.take_append_drop]
  have h0 := refAt_not ha
  unfold refAt at h0 ⊢
  rw [Option.map_eq_none_iff] at h0
  rw [e, List.map_append, List.find?_append, h0, List.map_cons, List.find?_cons]
  simp [rsv, hy]
/-- Which number labels have. -/
theorem rref_any (h : RixE w p S v ys) (A : Option Addr) (c : Nat) (l : List Lb) (hx : Rd w A (lcells l)) (hl : l.length ≤ 1000000) : Calls Tryz.prog 20 #[.pointer (some ⟨p, 0, none⟩), .slice A l.length c] w fun e w' =>
    e = .returned (.tuple #[.int .u64 (((refAt (ys.map rsv) l).getD 0 : Nat)), .bool (refAt (ys.map rsv) l).isSome]) ∧ Below w.heap.size w w' := by
  have hfew := h.few
  have hat := h.at_
  have hea := h.each
  have HAT := Lib.hid hat
  have HEA := Lib.hid hea
  have HX := Lib.hid hx
  obtain ⟨B, cb, rfl, hr, hc1, hc2⟩ := own_rd_s h.row
  unfold maxLen at hc2
  have HR := Lib.hid hr
  have c0 := cell_blk h.box 0
  simp only [List.getElem?_toArray, List.getElem?_cons_succ, List.getElem?_cons_zero] at c0
  obtain ⟨R, hR⟩ : ∃ R, R = refAt (ys.map rsv) l := ⟨_, rfl⟩
  rw [← hR]
  have HRR := Lib.hid hR
  clear hr h hat hea hx hR
  go_enter Tryz.func20, Tryz.ntmps20
  go_wp2
  go_loopw [13] (fun s13 wr => ∃ k : Nat, s13 = .int .i64 k ∧ k ≤ ys.length ∧ Aside (∀ y ∈ ys.take k, y.ls ≠ l) ∧ Aside (Below w.heap.size w wr)) (fun s13 _ => ys.length - (intOf s13).toNat)
  case atStart => exact ⟨0, rfl, by omega, fun y hy => by simp at hy, Below.refl _ _⟩
  case round =>
    obtain ⟨k, rfl, hk, AL, BW⟩ := hrel
    have k0 : (0 : Int) ≤ (k : Int) := by omega
    by_cases hlt : k < ys.length
    · have k1 : (k : Int) < (ys.length : Int) := by omega
      obtain ⟨y, hy⟩ : ∃ y, ys[k]? = some y := ⟨_, List.getElem?_eq_getElem hlt⟩
      obtain ⟨b, off, rfl, hcl⟩ := (HR.out.below BW.out).flat rsC_len (by decide) hy
      have d0 := hcl 0 _ rfl; have d1 := hcl 1 _ rfl
      rw [Nat.add_zero] at d0
      have hmem := List.mem_of_getElem? hy
      have hl16 := (right_parts (HEA.out y hmem).1).1
      have hbb := BW.out.alloc BW.out.size (.cells #[.int .u64 (y.n : Nat), .slice y.A y.ls.length y.c] 84)
      have hsm := rsame_any y.A A y.c c y.ls l _ ((HAT.out y hmem).below hbb) (HX.out.below hbb) (by omega) hl
      have HBB := Lib.hid hbb
      have HSM := Lib.hid hsm
      have HY := Lib.hid hy
      have HAL := Lib.hid (fun e : y.ls ≠ l => rs_take (q := fun y => y.ls ≠ l) hy AL.out e)
      have HALL := Lib.hid AL.out
      obtain ⟨m, hm⟩ : ∃ m, m = y.ls.length := ⟨_, rfl⟩
      rw [← hm] at d1 HSM HBB
      clear hcl hy hm hmem hl16 hbb hsm
      by_cases he : y.ls = l
      · rw [decide_eq_true he] at HSM
        have HN := Lib.hid he; clear he
        go_wp2_with (first
          | (go_at_call 21; refine HSM.out.mono ?_; rintro e w2 ⟨rfl, q, rfl⟩)
          | fail)
        go_ret2
        have e9 : R = some y.n := by rw [HRR.out]; exact refAt_first HY.out HALL.out HN.out
        rw [e9]
        exact ⟨rfl, below_drewN HBB.out q⟩
      · rw [decide_eq_false he] at HSM
        have HN := Lib.hid he; clear he
        go_wp2_with (first
          | (go_at_call 21; refine HSM.out.mono ?_; rintro e w2 ⟨rfl, q, rfl⟩)
          | fail)
        go_roundw
        case rel => exact ⟨k + 1, by go_num, by omega, HAL.out HN.out, (show Aside _ from below_drewN HBB.out q)⟩
        case measure => simp [intOf]; omega
    · obtain rfl : k = ys.length := by omega
      have HA := Lib.hid AL.out; have HB := Lib.hid BW.out
      go_wp2
      go_ret2
      have e9 : R = none := by rw [HRR.out]; exact refAt_not fun y hy => HA.out y (by rw [List.take_length]; exact hy)
      rw [e9]
      exact ⟨rfl, HB.out⟩
theorem labAt_not {L : List RSr} {n : Nat} (h : ∀ y ∈ L, y.n ≠ n) : labAt (L.map rsv) n = none := by
  unfold labAt
  rw [Option.map_eq_none_iff, List.find?_eq_none]
  intro s hs
  obtain ⟨y, hy, rfl⟩ := List.mem_map.1 hs
  simp only [decide_eq_true_eq]; exact h y hy
theorem labAt_mem {L : List RSr} (hL : Wf (L.map rsv)) {y : RSr} (hy : y ∈ L) : labAt (L.map rsv) y.n = some y.ls := labAt_of hL (s := rsv y) (List.mem_map.2 ⟨y, hy, rfl⟩)
/-- Which labels a number has. -/
theorem rlabels_any (h : RixE w p S v ys) (hL : Wf (ys.map rsv)) (n : Nat) (hn : n < 18446744073709551616) : Calls Tryz.prog 18 #[.pointer (some ⟨p, 0, none⟩), .int .u64 (n : Nat)] w fun e w' =>
    ∃ A c l, l = (labAt (ys.map rsv) n).getD [] ∧ e = .returned (.tuple #[.slice A l.length c, .bool (labAt (ys.map rsv) n).isSome]) ∧ Rd w' A (lcells l) ∧ Below w.heap.size w w' := by
  have hp := place_any h n hn
  have hfew := h.few
  have hea := h.each
  have HAT := Lib.hid h.at_
  have HBOX := Lib.hid h.box
  have hpl := blk_lt h.box
  obtain ⟨B, cb, rfl, hr, hc1, hc2⟩ := own_rd_s h.row
  unfold maxLen at hc2
  have HR := Lib.hid hr
  clear hr h
  by_cases hin : ∃ y ∈ ys, y.n = n
  · have hp2 : Calls Tryz.prog 49 #[.pointer (some ⟨p, 0, none⟩), .int .u64 (n : Nat)] w fun e w' => (∃ (k : Nat) (y : RSr), ys[k]? = some y ∧ y.n = n ∧ e = .returned (.int .i64 (k : Nat))) ∧ Below w.heap.size w w' := by
      refine hp.mono fun e w' ⟨h1, h2⟩ => ⟨?_, h2⟩
      rcases h1 with ⟨_, h1⟩ | h1
      · obtain ⟨y, hy, e⟩ := hin; exact absurd e (h1 y hy)
      · exact h1
    have HP := Lib.hid hp2
    clear hp hp2 hin
    have HL := Lib.hid hL
    clear hL
    go_enter Tryz.func18, Tryz.ntmps18
    go_wp2_with (first
      | (go_at_call 49; refine HP.out.mono ?_; rintro e w1 ⟨⟨k, y, hy, hyn, rfl⟩, hb⟩
         obtain ⟨hlt, -⟩ := List.getElem?_eq_some_iff.1 hy
         have k0 : (0 : Int) ≤ (k : Int) := by omega
         have k9 : ¬ (k : Int) < 0 := by omega
         have k1 : (k : Int) < (ys.length : Int) := by omega
         have kn : (k : Int).toNat = k := by omega
         obtain ⟨b, off, rfl, hcl⟩ := (HR.out.below hb).flat rsC_len (by decide) hy
         have d1 := hcl 1 _ rfl
         have hbx := (hb.block p hpl).trans HBOX.out
         have c0 := cell_blk hbx 0
         simp only [List.getElem?_toArray, List.getElem?_cons_succ, List.getElem?_cons_zero] at c0
         have HY := Lib.hid hy; have HYN := Lib.hid hyn; have HB := Lib.hid hb
         obtain ⟨m, hm⟩ : ∃ m, m = y.ls.length := ⟨_, rfl⟩
         rw [← hm] at d1
         have HMm := Lib.hid hm
         clear hy hyn hb hcl hbx hm)
      | fail)
    go_ret2
    have hm := List.mem_of_getElem? HY.out
    have hla := labAt_mem HL.out hm
    rw [HYN.out] at hla
    rw [hla]
    exact ⟨y.A, y.c, y.ls, rfl, by rw [← HMm.out]; rfl, (HAT.out y hm).below HB.out, HB.out⟩
  · have hp2 : Calls Tryz.prog 49 #[.pointer (some ⟨p, 0, none⟩), .int .u64 (n : Nat)] w fun e w' => e = .returned (.int .i64 (-1)) ∧ Below w.heap.size w w' := by
      refine hp.mono fun e w' ⟨h1, h2⟩ => ⟨?_, h2⟩
      rcases h1 with ⟨h1, _⟩ | ⟨k, y, hy, e, _⟩
      · exact h1
      · exact absurd ⟨y, List.mem_of_getElem? hy, e⟩ hin
    have hla := labAt_not (L := ys) (n := n) fun y hy e => hin ⟨y, hy, e⟩
    rw [hla]
    have HP := Lib.hid hp2
    clear hp hp2 hin hL hla
    go_enter Tryz.func18, Tryz.ntmps18
    go_wp2_with (first
      | (go_at_call 49; refine HP.out.mono ?_; rintro e w1 ⟨rfl, hb⟩; have HB := Lib.hid hb; clear hb)
      | fail)
    go_ret2
    exact ⟨none, 0, [], rfl, rfl, Rd.nil _ _, HB.out⟩
end
end
end
end Go.Proofs.YtjgappbomohlcaaGreatDoor
