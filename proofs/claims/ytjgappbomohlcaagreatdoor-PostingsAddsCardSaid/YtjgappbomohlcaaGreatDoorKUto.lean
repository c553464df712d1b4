/-
  What two lists of numbers have together.
-/
import Derived.Maps.AppendAt
import Derived.Shelf.Abstract
import Derived.Test.YtjgappbomohlcaaGreatDoorKUri
namespace Go.Proofs.YtjgappbomohlcaaGreatDoor
section
set_option linter.unusedVariables false
set_option linter.unusedSimpArgs false
open Go.RowKit
/-- The numbers of two rising lists that are kept, by which of both has them. -/
def togN (p : Bool → Bool → Bool) : List Nat → List Nat → List Nat
  | [], [] => []
  | x :: a, [] => if p true false = true then x :: togN p a [] else togN p a []
  | [], y :: b => if p false true = true then y :: togN p [] b else togN p [] b
  | x :: a, y :: b =>
    if x < y then (if p true false = true then x :: togN p a (y :: b) else togN p a (y :: b))
    else if y < x then (if p false true = true then y :: togN p (x :: a) b else togN p (x :: a) b)
    else (if p true true = true then x :: togN p a b else togN p a b)
termination_by a b => a.length + b.length
def TogIs (p : Bool → Bool → Bool) (a b r : List Nat) : Prop := RisN r ∧ ∀ n, n ∈ r ↔ (n ∈ a ∨ n ∈ b) ∧ p (decide (n ∈ a)) (decide (n ∈ b)) = true
theorem tog_step {p : Bool → Bool → Bool} {a b r : List Nat} {h : Nat} {i j : Bool} (ha : ∀ n ∈ a, h < n) (hb : ∀ n ∈ b, h < n) (hij : (i || j) = true) (hr : TogIs p a b r) :
    TogIs p (if i = true then h :: a else a) (if j = true then h :: b else b) (if p i j = true then h :: r else r) := by
  have hh : h ∉ a ∧ h ∉ b := ⟨fun e => Nat.lt_irrefl _ (ha h e), fun e => Nat.lt_irrefl _ (hb h e)⟩
  have hi : ∀ n, n ∈ (if i = true then h :: a else a) ↔ (n = h ∧ i = true) ∨ n ∈ a := fun n => by cases i <;> simp
  have hj : ∀ n, n ∈ (if j = true then h :: b else b) ↔ (n = h ∧ j = true) ∨ n ∈ b := fun n => by cases j <;> simp
  have hrm : ∀ n ∈ r, h < n := fun n hn => by
    rcases ((hr.2 n).1 hn).1 with e | e
    · exact ha n e
    · exact hb n e
  constructor
  · split
    · unfold RisN; rw [List.pairwise_cons]; exact ⟨hrm, hr.1⟩
    · exact hr.1
  · intro n
    by_cases hn : n = h
    · subst hn
      have e1 : decide (n ∈ (if i = true then n :: a else a)) = i := by
        cases i
        · simp [hh.1]
        · simp
      have e2 : decide (n ∈ (if j = true then n :: b else b)) = j := by
        cases j
        · simp [hh.2]
        · simp
      rw [e1, e2, hi, hj]
      constructor
      · intro hm
        refine ⟨?_, ?_⟩
        · rw [Bool.or_eq_true] at hij
          rcases hij with e | e
          · exact .inl (.inl ⟨rfl, e⟩)
          · exact .inr (.inl ⟨rfl, e⟩)
        · split at hm
          · assumption
          · exact absurd (hrm n hm) (Nat.lt_irrefl _)
      · rintro ⟨_, hp⟩
        rw [if_pos hp]; exact List.mem_cons_self
    · have e1 : (n ∈ (if i = true then h :: a else a)) ↔ n ∈ a := by rw [hi]; simp [hn]
      have e2 : (n ∈ (if j = true then h :: b else b)) ↔ n ∈ b := by rw [hj]; simp [hn]
      rw [show decide (n ∈ (if i = true then h :: a else a)) = decide (n ∈ a) from decide_eq_decide.2 e1, show decide (n ∈ (if j = true then h :: b else b)) = decide (n ∈ b) from decide_eq_decide.2 e2, e1, e2, ← hr.2 n]
      split
      · rw [List.mem_cons]; simp [hn]
      · rfl
theorem tog_is (p : Bool → Bool → Bool) : ∀ (k : Nat) (a b : List Nat), a.length + b.length ≤ k → RisN a → RisN b → TogIs p a b (togN p a b) := by
  intro k
  induction k with
  | zero =>
    intro a b hk ha hb
    cases a with
    | nil =>
      cases b with
      | nil => rw [togN]; exact ⟨List.Pairwise.nil, by simp⟩
      | cons y b => simp at hk
    | cons x a => simp at hk
  | succ k ih =>
    intro a b hk ha hb
    cases a with
    | nil =>
      cases b with
      | nil => rw [togN]; exact ⟨List.Pairwise.nil, by simp⟩
      | cons y b =>
        unfold RisN at hb; rw [List.pairwise_cons] at hb
        rw [togN]
        exact tog_step (i := false) (j := true) (by simp) hb.1 rfl (ih [] b (by simp at hk ⊢; omega) ha hb.2)
    | cons x a =>
      have ha' := ha
      unfold RisN at ha'; rw [List.pairwise_cons] at ha'
      cases b with
      | nil =>
        rw [togN]
        exact tog_step (i := true) (j := false) ha'.1 (by simp) rfl (ih a [] (by simp at hk ⊢; omega) ha'.2 hb)
      | cons y b =>
        have hb' := hb
        unfold RisN at hb'; rw [List.pairwise_cons] at hb'
        rw [togN]
        split
        · rename_i hxy
          exact tog_step (i := true) (j := false) ha'.1 (fun n hn => by rcases List.mem_cons.1 hn with rfl | hn; exact hxy; have := hb'.1 n hn; omega) rfl (ih a (y :: b) (by simp at hk ⊢; omega) ha'.2 hb)
        · split
          · rename_i _ hyx
            exact tog_step (i := false) (j := true) (fun n hn => by rcases List.mem_cons.1 hn with rfl | hn; exact hyx; have := ha'.1 n hn; omega) hb'.1 rfl (ih (x :: a) b (by simp at hk ⊢; omega) ha hb'.2)
          · obtain rfl : x = y := by omega
            exact tog_step (i := true) (j := true) ha'.1 hb'.1 rfl (ih a b (by simp at hk ⊢; omega) ha'.2 hb'.2)
theorem tog_and (a b : List Nat) : togN (fun x y => x && y) (riseN a) (riseN b) = andN a b := by
  have h := tog_is (fun x y => x && y) _ _ _ (Nat.le_refl _) (riseN_ris a) (riseN_ris b)
  refine rise_of h.1 fun n => ?_
  rw [h.2, List.mem_filter]
  simp only [riseN_mem, Bool.and_eq_true, decide_eq_true_eq]
  exact ⟨fun ⟨_, h⟩ => h, fun h => ⟨.inl h.1, h⟩⟩
theorem tog_or (a b : List Nat) : togN (fun x y => x || y) (riseN a) (riseN b) = orN a b := by
  have h := tog_is (fun x y => x || y) _ _ _ (Nat.le_refl _) (riseN_ris a) (riseN_ris b)
  refine rise_of h.1 fun n => ?_
  rw [h.2, List.mem_append]
  simp [riseN_mem]
theorem tog_less (a b : List Nat) : togN (fun x y => x && !y) (riseN a) (riseN b) = lessN a b := by
  have h := tog_is (fun x y => x && !y) _ _ _ (Nat.le_refl _) (riseN_ris a) (riseN_ris b)
  refine rise_of h.1 fun n => ?_
  rw [h.2, List.mem_filter]
  simp only [riseN_mem, Bool.and_eq_true, decide_eq_true_eq]
  exact ⟨fun ⟨_, h⟩ => h, fun h => ⟨.inl h.1, h⟩⟩
theorem wpList_append_u {w : World} {ops : Array Oper} {rest : List Oper} {o : Oper} {a : Act} {Q : Exit → Act → World → Prop} (hgd : o.guard = none) (s x : Operand)
    (ho : o.op = .call { callee := .builtin .append, args := #[s, x], argTypes := #[49, 49] })
    (base : Nat) (v : Value) (xs : List Nat) (hs : a.eval s = v) (hown : w.ownsRow base 23 1 v xs.length (xs.map Un))
    (ad : Addr) (c : Nat) (ys : List Nat) (hx : a.eval x = .slice (some ad) ys.length c) (hy : Rd w (some ad) (ys.map Un)) (hl : xs.length + ys.length ≤ 10000000) (hbase : base ≤ w.heap.size)
    (h : ∀ v' w', w'.ownsRow base 23 1 v' (xs ++ ys).length ((xs ++ ys).map Un) → w.grownBy w' v.ownBlock → (v'.ownBlock = v.ownBlock ∨ v'.ownBlock = some w.heap.size) → wpList Tryz.prog ops Q rest (a.put o.dst v') w') : wpList Tryz.prog ops Q (o :: rest) a w := by
  obtain ⟨i0, hi, hz0, hz1, hz2⟩ := info_parts infoU64
  rw [List.length_append, List.map_append] at h
  exact wpList_append_own_at w hgd s x 49 ho base 23 i0 (.int .u64 0) 1 8 Tryz.underlying49 hi hz0 hz1 hz2 rfl (by decide) v xs.length (xs.map Un) hs hown ad ys.length c (ys.map Un) hx (by rw [List.length_map]; omega) (rd_cells hy) (un_cell' ys) (by unfold maxLen; omega) (by omega) hbase (fun v' w' a b _ d => h v' w' a b d)
theorem slice_tailU (A : Option Addr) (m c : Nat) (hc : m + 1 ≤ c) : ∃ A', (∀ w, (Instr.sliceAt 49 (.slice A (m + 1) c) (some (.int .i64 1)) none none).run Tryz.prog w = .ok (.slice A' m (c - 1)) w) ∧ ∀ (w : World) (x : Nat) (l : List Nat), l.length = m → Rd w A ((x :: l).map Un) → Rd w A' (l.map Un) := by
  obtain ⟨A', h1, h2⟩ := run_slice_all (P := Tryz.prog) 49 23 A (m + 1) c 1 (m + 1) (some (.int .i64 (1 : Nat))) none Tryz.underlying49 (by kernel_rfl) (.inl rfl) (.inr ⟨rfl, rfl⟩) (by omega) hc
  refine ⟨A', fun w => ?_, fun w x l hl hr => ?_⟩
  · have := h1 w
    simpa using this
  · have := h2 w ((x :: l).map Un) (by simp; omega) hr
    simpa using this
theorem headU {w : World} {A : Option Addr} {x : Nat} {l : List Nat} (h : Rd w A ((x :: l).map Un)) : ∃ b off, A = some ⟨b, off, none⟩ ∧ w.cell? ⟨b, off, none⟩ = some (.int .u64 (x : Nat)) := by
  obtain ⟨b, off, e, hc⟩ := h 0 (Un x) rfl
  exact ⟨b, off, e, by rw [Nat.add_zero] at hc; exact hc⟩
theorem own_rdU {w : World} {B : Nat} {v : Value} {l : List Nat} (h : w.ownsRow B 23 1 v l.length (l.map Un)) : ∃ A c, v = .slice A l.length c ∧ Rd w A (l.map Un) ∧ l.length ≤ c ∧ c ≤ maxLen := by
  rcases h.2 with ⟨rfl, h0⟩ | ⟨g, cap, cur, rfl, hB, hg, hnc, hcm, hcs, htk⟩
  · have : l = [] := List.eq_nil_of_length_eq_zero h0
    subst this
    exact ⟨none, 0, rfl, Rd.nil _ _, Nat.le_refl _, by decide⟩
  · refine ⟨some ⟨g, 0, none⟩, cap, rfl, fun k u hk => ?_, hnc, hcm⟩
    have := h.cells (g := g) rfl k u hk
    have hadd : (⟨g, 0, none⟩ : Addr).add k = ⟨g, k, none⟩ := by unfold Addr.add; split <;> simp_all
    exact ⟨g, 0, rfl, by rw [hadd] at this; simpa using this⟩
def lenU : Value → Nat
  | .slice _ n _ => n
  | _ => 0
section
set_option maxHeartbeats 6400000
set_option maxRecDepth 100000
theorem tog_any (g : Nat) (p : Bool → Bool → Bool) (eg : ∀ args w, (callFunc g args).run Tryz.prog w = .ok (.enter g args) w) (hg : ∀ (x y : Bool) (W : World), Calls Tryz.prog g #[.bool x, .bool y] W fun e w' => e = .returned (.bool (p x y)) ∧ w' = W)
    (A B : Option Addr) (ca cb : Nat) (l m : List Nat) (w : World) (hx : Rd w A (l.map Un)) (hy : Rd w B (m.map Un)) (hl : l.length ≤ 1000000) (hm : m.length ≤ 1000000) :
    Calls Tryz.prog 59 #[.slice A l.length ca, .slice B m.length cb, .func (.func g) #[] #[]] w fun e w' => ∃ v, e = .returned v ∧ w'.ownsRow w.heap.size 23 1 v (togN p (riseN l) (riseN m)).length ((togN p (riseN l) (riseN m)).map Un) ∧ Below w.heap.size w w' := by
  have H1 := Lib.hid (rising_any A ca l w hx hl)
  have H2 := Lib.hid (fun W (hb : Below w.heap.size w W) => rising_any B cb m W (hy.below hb) hm)
  have hl1 := riseN_len l
  have hl2 := riseN_len m
  have HG := Lib.hid hg
  clear hx hy hg
  generalize riseN l = a0 at H1 hl1 ⊢
  generalize riseN m = b0 at H2 hl2 ⊢
  obtain ⟨R, hR⟩ : ∃ R, R = togN p a0 b0 := ⟨_, rfl⟩
  rw [← hR]
  have HR := Lib.hid hR; clear hR
  go_enter Tryz.func59, Tryz.ntmps59
  go_wp2_with fail
  refine H1.out.mono ?_
  rintro e w1 ⟨A1, c1, rfl, hr1, hc1, hm1, hb1⟩
  have HB1 := Lib.hid hb1; have HR1 := Lib.hid hr1; have HM1 := Lib.hid hm1
  clear hb1 hr1 hm1
  go_wp2_with fail
  refine (H2.out w1 HB1.out).mono ?_
  rintro e w2 ⟨A2, c2, rfl, hr2, hc2, hm2, hb2⟩
  have HB2 := Lib.hid (HB1.out.trans (hb2.mono HB1.out.size)); have HR2 := Lib.hid hr2; have HM2 := Lib.hid hm2
  have HR1' := Lib.hid (HR1.out.below hb2)
  clear hb2 hr2 hm2 HR1
  have HL0 := Lib.hid (show a0.length + b0.length ≤ 2000000 by omega)
  have hcm1 := HM1.out; have hcm2 := HM2.out
  unfold maxLen at hcm1 hcm2
  go_wp2_with fail
  go_loopw [0, 1, 7] (fun s0 s1 s7 wr => ∃ (a b acc : List Nat) (A B : Option Addr) (ca cb : Nat), s0 = .slice A a.length ca ∧ s1 = .slice B b.length cb ∧ a.length ≤ ca ∧ ca ≤ 9223372036854775807 ∧ b.length ≤ cb ∧ cb ≤ 9223372036854775807 ∧ a.length + b.length + acc.length ≤ a0.length + b0.length ∧ (∃ A' n' c', s7 = .slice A' n' c') ∧ Aside (Rd w2 A (a.map Un)) ∧ Aside (Rd w2 B (b.map Un)) ∧ Aside (wr.ownsRow w2.heap.size 23 1 s7 acc.length (acc.map Un)) ∧ Aside (Below w2.heap.size w2 wr) ∧ Aside (acc ++ togN p a b = R)) (fun s0 s1 _ _ => lenU s0 + lenU s1)
  case atStart => exact ⟨a0, b0, [], _, _, _, _, rfl, rfl, hc1, hcm1, hc2, hcm2, by simp, ⟨_, _, _, rfl⟩, HR1'.out, HR2.out, World.ownsRow_nil _ _ _ _, Below.refl _ _, HR.out.symm⟩
  case round =>
    obtain ⟨a, b, acc, A, B, ca, cb, rfl, rfl, ka, ka', kb, kb', hlen, ⟨A', n', c', rfl⟩, RA, RB, OW, BW, E⟩ := hrel
    obtain ⟨w3, h3⟩ : ∃ w3, w3 = wr := ⟨_, rfl⟩
    rw [← h3] at OW BW ⊢
    clear h3
    cases a with
    | nil =>
      cases b with
      | nil =>
        have hE := E.out
        rw [togN, List.append_nil] at hE
        subst hE
        have HO := Lib.hid (OW.out.lower HB2.out.size); have HB := Lib.hid (HB2.out.trans (BW.out.mono HB2.out.size))
        go_wp2
        go_ret
        exact ⟨_, rfl, HO.out, HB.out⟩
      | cons y b1 =>
        obtain ⟨bB, oB, rfl, cy⟩ := headU (RB.out.below BW.out)
        obtain ⟨TB, hTB, hTBr⟩ := slice_tailU (some ⟨bB, oB, none⟩) b1.length cb (by simpa using kb)
        have HTB := Lib.hid (hTBr w2 y b1 rfl RB.out)
        obtain ⟨nb, hnb⟩ : ∃ nb, nb = b1.length := ⟨_, rfl⟩
        rw [List.length_cons] at kb hlen ⊢
        rw [← hnb] at kb hlen hTB ⊢
        have gb : (0 : Int) < ((nb + 1 : Nat) : Int) := by omega
        have gb' : (0 : Int) < (nb : Int) + 1 := by omega
        have gb2 : (((nb + 1 : Nat) : Int) == 0) = false := by rw [beq_eq_false_iff_ne]; omega
        have gb3 : (((nb : Int) + 1) == 0) = false := by rw [beq_eq_false_iff_ne]; omega
        have HNB := Lib.hid hnb
        clear hnb hTBr
        have hE := E.out
        rw [togN] at hE

        have hgp := HG.out false true
        obtain ⟨t, ht⟩ : ∃ t, t = p false true := ⟨_, rfl⟩
        rw [← ht] at hgp hE
        have HGP := Lib.hid hgp; have HE := Lib.hid hE
        clear hgp hE ht E
        have HLEN := Lib.hid (show acc.length ≤ a0.length + b0.length by omega)

        cases t with
        | false =>
          have HE2 := Lib.hid (show acc ++ togN p ([]) (b1) = R from by have := HE.out; rwa [if_neg (by simp)] at this)
          clear HE
          go_wp2_with fail
          go_quiet (fail)
          go_wp2_with fail
          go_quiet (fail)
          go_wp2_with fail
          try go_quiet (fail)
          go_wp2_with (first
            | (go_at_fn g; refine (HGP.out _).mono ?_; rintro e w9 ⟨rfl, hw9⟩; have HW9 := Lib.hid hw9; clear hw9)
            | fail)
          have ho9 : w9.ownsRow w2.heap.size 23 1 (.slice A' n' c') acc.length (acc.map Un) := by rw [HW9.out]; exact OW.out
          have hb9 : Below w2.heap.size w2 w9 := by rw [HW9.out]; exact ⟨BW.out.os, BW.out.tape, BW.out.output, BW.out.size, BW.out.block⟩
          have HO9 := Lib.hid ho9; have HB9 := Lib.hid hb9
          clear ho9 hb9
          go_roundw
          case rel => exact ⟨[], b1, acc, _, _, _, _, by first | rfl | (simp only [List.length_cons]; rw [← HNA.out]) | rw [← HNA.out], by first | rfl | (simp only [List.length_cons]; rw [← HNB.out]) | rw [← HNB.out], by (try simp only [List.length_cons, List.length_nil]); omega, by omega, by (try simp only [List.length_cons, List.length_nil]); have := HNB.out; omega, by omega, by (try simp only [List.length_cons, List.length_nil, List.length_append] at hlen); (try simp only [List.length_cons, List.length_nil, List.length_append]); have := HNB.out; omega, ⟨_, _, _, rfl⟩, (show Aside _ from RA.out), (show Aside _ from HTB.out), (show Aside _ from HO9.out), (show Aside _ from HB9.out), (show Aside _ from HE2.out)⟩
          case measure => simp [lenU]; try omega
        | true =>
          have HE2 := Lib.hid (show (acc ++ [y]) ++ togN p ([]) (b1) = R from by have := HE.out; rw [if_pos rfl] at this; rw [List.append_assoc]; exact this)
          clear HE
          go_wp2_with fail
          go_quiet (fail)
          go_wp2_with fail
          go_quiet (fail)
          go_wp2_with fail
          try go_quiet (fail)
          go_wp2_with (first
            | (go_at_fn g; refine (HGP.out _).mono ?_; rintro e w9 ⟨rfl, hw9⟩; (have ho9 : w9.ownsRow w2.heap.size 23 1 (.slice A' n' c') acc.length (acc.map Un) := (by rw [hw9]; exact OW.out)); (have hb9 : Below w2.heap.size w2 w9 := (by rw [hw9]; exact ⟨BW.out.os, BW.out.tape, BW.out.output, BW.out.size, BW.out.block⟩)); have HO9 := Lib.hid ho9; have HB9 := Lib.hid hb9; clear ho9 hb9 hw9)
            | (at_builtin; go_must (refine wpList_append_u rfl _ _ rfl w2.heap.size _ acc rfl (HO9.out.alloc _) ⟨w9.heap.size, 0, none⟩ 1 [y] rfl (rd_row w9 [Un y] 23) (by have := HL0.out; have := HLEN.out; simp only [List.length_cons, List.length_nil]; omega) (by have := HB9.out.size; rw [World.size_alloc]; omega) ?_; intro v4 w4 own4 grow4 _))
            | fail)
          have HO4 := Lib.hid own4
          have hb4 : Below w2.heap.size w2 w4 := (HB9.out.alloc HB9.out.size _).grown grow4 (by have := HB9.out.size; rw [World.size_alloc]; omega) (fun k h => (HO9.out.lt k h).1)
          have HB4 := Lib.hid hb4
          clear own4 grow4 hb4
          obtain ⟨A8, c8, hv8, -⟩ := own_rdU HO4.out
          subst hv8
          go_roundw
          case rel => exact ⟨[], b1, acc ++ [y], _, _, _, _, by first | rfl | (simp only [List.length_cons]; rw [← HNA.out]) | rw [← HNA.out], by first | rfl | (simp only [List.length_cons]; rw [← HNB.out]) | rw [← HNB.out], by (try simp only [List.length_cons, List.length_nil]); omega, by omega, by (try simp only [List.length_cons, List.length_nil]); have := HNB.out; omega, by omega, by (try simp only [List.length_cons, List.length_nil, List.length_append] at hlen); (try simp only [List.length_cons, List.length_nil, List.length_append]); have := HNB.out; omega, ⟨_, _, _, rfl⟩, (show Aside _ from RA.out), (show Aside _ from HTB.out), (show Aside _ from HO4.out), (show Aside _ from HB4.out), (show Aside _ from HE2.out)⟩
          case measure => simp [lenU]; try omega
    | cons x a1 =>
      cases b with
      | nil =>
        obtain ⟨bA, oA, rfl, cx⟩ := headU (RA.out.below BW.out)
        obtain ⟨TA, hTA, hTAr⟩ := slice_tailU (some ⟨bA, oA, none⟩) a1.length ca (by simpa using ka)
        have HTA := Lib.hid (hTAr w2 x a1 rfl RA.out)
        obtain ⟨na, hna⟩ : ∃ na, na = a1.length := ⟨_, rfl⟩
        rw [List.length_cons] at ka hlen ⊢
        rw [← hna] at ka hlen hTA ⊢
        have ga : (0 : Int) < ((na + 1 : Nat) : Int) := by omega
        have ga' : (0 : Int) < (na : Int) + 1 := by omega
        have ga2 : (((na + 1 : Nat) : Int) == 0) = false := by rw [beq_eq_false_iff_ne]; omega
        have ga3 : (((na : Int) + 1) == 0) = false := by rw [beq_eq_false_iff_ne]; omega
        have HNA := Lib.hid hna
        clear hna hTAr
        have hE := E.out
        rw [togN] at hE

        have hgp := HG.out true false
        obtain ⟨t, ht⟩ : ∃ t, t = p true false := ⟨_, rfl⟩
        rw [← ht] at hgp hE
        have HGP := Lib.hid hgp; have HE := Lib.hid hE
        clear hgp hE ht E
        have HLEN := Lib.hid (show acc.length ≤ a0.length + b0.length by omega)

        cases t with
        | false =>
          have HE2 := Lib.hid (show acc ++ togN p (a1) ([]) = R from by have := HE.out; rwa [if_neg (by simp)] at this)
          clear HE
          go_wp2_with fail
          go_quiet (fail)
          go_wp2_with fail
          go_quiet (fail)
          go_wp2_with fail
          try go_quiet (fail)
          go_wp2_with (first
            | (go_at_fn g; refine (HGP.out _).mono ?_; rintro e w9 ⟨rfl, hw9⟩; have HW9 := Lib.hid hw9; clear hw9)
            | fail)
          have ho9 : w9.ownsRow w2.heap.size 23 1 (.slice A' n' c') acc.length (acc.map Un) := by rw [HW9.out]; exact OW.out
          have hb9 : Below w2.heap.size w2 w9 := by rw [HW9.out]; exact ⟨BW.out.os, BW.out.tape, BW.out.output, BW.out.size, BW.out.block⟩
          have HO9 := Lib.hid ho9; have HB9 := Lib.hid hb9
          clear ho9 hb9
          go_roundw
          case rel => exact ⟨a1, [], acc, _, _, _, _, by first | rfl | (simp only [List.length_cons]; rw [← HNA.out]) | rw [← HNA.out], by first | rfl | (simp only [List.length_cons]; rw [← HNB.out]) | rw [← HNB.out], by (try simp only [List.length_cons, List.length_nil]); have := HNA.out; omega, by omega, by (try simp only [List.length_cons, List.length_nil]); omega, by omega, by (try simp only [List.length_cons, List.length_nil, List.length_append] at hlen); (try simp only [List.length_cons, List.length_nil, List.length_append]); have := HNA.out; omega, ⟨_, _, _, rfl⟩, (show Aside _ from HTA.out), (show Aside _ from RB.out), (show Aside _ from HO9.out), (show Aside _ from HB9.out), (show Aside _ from HE2.out)⟩
          case measure => simp [lenU]; try omega
        | true =>
          have HE2 := Lib.hid (show (acc ++ [x]) ++ togN p (a1) ([]) = R from by have := HE.out; rw [if_pos rfl] at this; rw [List.append_assoc]; exact this)
          clear HE
          go_wp2_with fail
          go_quiet (fail)
          go_wp2_with fail
          go_quiet (fail)
          go_wp2_with fail
          try go_quiet (fail)
          go_wp2_with (first
            | (go_at_fn g; refine (HGP.out _).mono ?_; rintro e w9 ⟨rfl, hw9⟩; (have ho9 : w9.ownsRow w2.heap.size 23 1 (.slice A' n' c') acc.length (acc.map Un) := (by rw [hw9]; exact OW.out)); (have hb9 : Below w2.heap.size w2 w9 := (by rw [hw9]; exact ⟨BW.out.os, BW.out.tape, BW.out.output, BW.out.size, BW.out.block⟩)); have HO9 := Lib.hid ho9; have HB9 := Lib.hid hb9; clear ho9 hb9 hw9)
            | (at_builtin; go_must (refine wpList_append_u rfl _ _ rfl w2.heap.size _ acc rfl (HO9.out.alloc _) ⟨w9.heap.size, 0, none⟩ 1 [x] rfl (rd_row w9 [Un x] 23) (by have := HL0.out; have := HLEN.out; simp only [List.length_cons, List.length_nil]; omega) (by have := HB9.out.size; rw [World.size_alloc]; omega) ?_; intro v4 w4 own4 grow4 _))
            | fail)
          have HO4 := Lib.hid own4
          have hb4 : Below w2.heap.size w2 w4 := (HB9.out.alloc HB9.out.size _).grown grow4 (by have := HB9.out.size; rw [World.size_alloc]; omega) (fun k h => (HO9.out.lt k h).1)
          have HB4 := Lib.hid hb4
          clear own4 grow4 hb4
          obtain ⟨A8, c8, hv8, -⟩ := own_rdU HO4.out
          subst hv8
          go_roundw
          case rel => exact ⟨a1, [], acc ++ [x], _, _, _, _, by first | rfl | (simp only [List.length_cons]; rw [← HNA.out]) | rw [← HNA.out], by first | rfl | (simp only [List.length_cons]; rw [← HNB.out]) | rw [← HNB.out], by (try simp only [List.length_cons, List.length_nil]); have := HNA.out; omega, by omega, by (try simp only [List.length_cons, List.length_nil]); omega, by omega, by (try simp only [List.length_cons, List.length_nil, List.length_append] at hlen); (try simp only [List.length_cons, List.length_nil, List.length_append]); have := HNA.out; omega, ⟨_, _, _, rfl⟩, (show Aside _ from HTA.out), (show Aside _ from RB.out), (show Aside _ from HO4.out), (show Aside _ from HB4.out), (show Aside _ from HE2.out)⟩
          case measure => simp [lenU]; try omega
      | cons y b1 =>
        obtain ⟨bA, oA, rfl, cx⟩ := headU (RA.out.below BW.out)
        obtain ⟨TA, hTA, hTAr⟩ := slice_tailU (some ⟨bA, oA, none⟩) a1.length ca (by simpa using ka)
        have HTA := Lib.hid (hTAr w2 x a1 rfl RA.out)
        obtain ⟨na, hna⟩ : ∃ na, na = a1.length := ⟨_, rfl⟩
        rw [List.length_cons] at ka hlen ⊢
        rw [← hna] at ka hlen hTA ⊢
        have ga : (0 : Int) < ((na + 1 : Nat) : Int) := by omega
        have ga' : (0 : Int) < (na : Int) + 1 := by omega
        have ga2 : (((na + 1 : Nat) : Int) == 0) = false := by rw [beq_eq_false_iff_ne]; omega
        have ga3 : (((na : Int) + 1) == 0) = false := by rw [beq_eq_false_iff_ne]; omega
        have HNA := Lib.hid hna
        clear hna hTAr
        obtain ⟨bB, oB, rfl, cy⟩ := headU (RB.out.below BW.out)
        obtain ⟨TB, hTB, hTBr⟩ := slice_tailU (some ⟨bB, oB, none⟩) b1.length cb (by simpa using kb)
        have HTB := Lib.hid (hTBr w2 y b1 rfl RB.out)
        obtain ⟨nb, hnb⟩ : ∃ nb, nb = b1.length := ⟨_, rfl⟩
        rw [List.length_cons] at kb hlen ⊢
        rw [← hnb] at kb hlen hTB ⊢
        have gb : (0 : Int) < ((nb + 1 : Nat) : Int) := by omega
        have gb' : (0 : Int) < (nb : Int) + 1 := by omega
        have gb2 : (((nb + 1 : Nat) : Int) == 0) = false := by rw [beq_eq_false_iff_ne]; omega
        have gb3 : (((nb : Int) + 1) == 0) = false := by rw [beq_eq_false_iff_ne]; omega
        have HNB := Lib.hid hnb
        clear hnb hTBr
        by_cases hxy : x < y
        · have e1 : (x : Int) ≤ (y : Int) := by omega
          have e2 : ¬ (y : Int) ≤ (x : Int) := by omega
          have e3 : decide (x ≤ y) = true := decide_eq_true (by omega)
          have e4 : decide (y ≤ x) = false := decide_eq_false (by omega)
          have hE := E.out
          rw [togN] at hE
          rw [if_pos hxy] at hE
          have hgp := HG.out true false
          obtain ⟨t, ht⟩ : ∃ t, t = p true false := ⟨_, rfl⟩
          rw [← ht] at hgp hE
          have HGP := Lib.hid hgp; have HE := Lib.hid hE
          clear hgp hE ht E
          have HLEN := Lib.hid (show acc.length ≤ a0.length + b0.length by omega)

          cases t with
          | false =>
            have HE2 := Lib.hid (show acc ++ togN p (a1) (y :: b1) = R from by have := HE.out; rwa [if_neg (by simp)] at this)
            clear HE
            go_wp2_with fail
            go_quiet (fail)
            go_wp2_with fail
            go_quiet (fail)
            go_wp2_with fail
            try go_quiet (fail)
            go_wp2_with (first
              | (go_at_fn g; refine (HGP.out _).mono ?_; rintro e w9 ⟨rfl, hw9⟩; have HW9 := Lib.hid hw9; clear hw9)
              | fail)
            have ho9 : w9.ownsRow w2.heap.size 23 1 (.slice A' n' c') acc.length (acc.map Un) := by rw [HW9.out]; exact OW.out
            have hb9 : Below w2.heap.size w2 w9 := by rw [HW9.out]; exact ⟨BW.out.os, BW.out.tape, BW.out.output, BW.out.size, BW.out.block⟩
            have HO9 := Lib.hid ho9; have HB9 := Lib.hid hb9
            clear ho9 hb9
            go_roundw
            case rel => exact ⟨a1, y :: b1, acc, _, _, _, _, by first | rfl | (simp only [List.length_cons]; rw [← HNA.out]) | rw [← HNA.out], by first | rfl | (simp only [List.length_cons]; rw [← HNB.out]) | rw [← HNB.out], by (try simp only [List.length_cons, List.length_nil]); have := HNA.out; omega, by omega, by (try simp only [List.length_cons, List.length_nil]); have := HNB.out; omega, by omega, by (try simp only [List.length_cons, List.length_nil, List.length_append] at hlen); (try simp only [List.length_cons, List.length_nil, List.length_append]); have := HNA.out; have := HNB.out; omega, ⟨_, _, _, rfl⟩, (show Aside _ from HTA.out), (show Aside _ from RB.out), (show Aside _ from HO9.out), (show Aside _ from HB9.out), (show Aside _ from HE2.out)⟩
            case measure => simp [lenU]; try omega
          | true =>
            have HE2 := Lib.hid (show (acc ++ [x]) ++ togN p (a1) (y :: b1) = R from by have := HE.out; rw [if_pos rfl] at this; rw [List.append_assoc]; exact this)
            clear HE
            go_wp2_with fail
            go_quiet (fail)
            go_wp2_with fail
            go_quiet (fail)
            go_wp2_with fail
            try go_quiet (fail)
            go_wp2_with (first
              | (go_at_fn g; refine (HGP.out _).mono ?_; rintro e w9 ⟨rfl, hw9⟩; (have ho9 : w9.ownsRow w2.heap.size 23 1 (.slice A' n' c') acc.length (acc.map Un) := (by rw [hw9]; exact OW.out)); (have hb9 : Below w2.heap.size w2 w9 := (by rw [hw9]; exact ⟨BW.out.os, BW.out.tape, BW.out.output, BW.out.size, BW.out.block⟩)); have HO9 := Lib.hid ho9; have HB9 := Lib.hid hb9; clear ho9 hb9 hw9)
              | (at_builtin; go_must (refine wpList_append_u rfl _ _ rfl w2.heap.size _ acc rfl (HO9.out.alloc _) ⟨w9.heap.size, 0, none⟩ 1 [x] rfl (rd_row w9 [Un x] 23) (by have := HL0.out; have := HLEN.out; simp only [List.length_cons, List.length_nil]; omega) (by have := HB9.out.size; rw [World.size_alloc]; omega) ?_; intro v4 w4 own4 grow4 _))
              | fail)
            have HO4 := Lib.hid own4
            have hb4 : Below w2.heap.size w2 w4 := (HB9.out.alloc HB9.out.size _).grown grow4 (by have := HB9.out.size; rw [World.size_alloc]; omega) (fun k h => (HO9.out.lt k h).1)
            have HB4 := Lib.hid hb4
            clear own4 grow4 hb4
            obtain ⟨A8, c8, hv8, -⟩ := own_rdU HO4.out
            subst hv8
            go_roundw
            case rel => exact ⟨a1, y :: b1, acc ++ [x], _, _, _, _, by first | rfl | (simp only [List.length_cons]; rw [← HNA.out]) | rw [← HNA.out], by first | rfl | (simp only [List.length_cons]; rw [← HNB.out]) | rw [← HNB.out], by (try simp only [List.length_cons, List.length_nil]); have := HNA.out; omega, by omega, by (try simp only [List.length_cons, List.length_nil]); have := HNB.out; omega, by omega, by (try simp only [List.length_cons, List.length_nil, List.length_append] at hlen); (try simp only [List.length_cons, List.length_nil, List.length_append]); have := HNA.out; have := HNB.out; omega, ⟨_, _, _, rfl⟩, (show Aside _ from HTA.out), (show Aside _ from RB.out), (show Aside _ from HO4.out), (show Aside _ from HB4.out), (show Aside _ from HE2.out)⟩
            case measure => simp [lenU]; try omega
        · by_cases hyx : y < x
          · have e1 : ¬ (x : Int) ≤ (y : Int) := by omega
            have e2 : (y : Int) ≤ (x : Int) := by omega
            have e3 : decide (x ≤ y) = false := decide_eq_false (by omega)
            have e4 : decide (y ≤ x) = true := decide_eq_true (by omega)
            have hE := E.out
            rw [togN] at hE
            rw [if_neg hxy, if_pos hyx] at hE
            have hgp := HG.out false true
            obtain ⟨t, ht⟩ : ∃ t, t = p false true := ⟨_, rfl⟩
            rw [← ht] at hgp hE
            have HGP := Lib.hid hgp; have HE := Lib.hid hE
            clear hgp hE ht E
            have HLEN := Lib.hid (show acc.length ≤ a0.length + b0.length by omega)

            cases t with
            | false =>
              have HE2 := Lib.hid (show acc ++ togN p (x :: a1) (b1) = R from by have := HE.out; rwa [if_neg (by simp)] at this)
              clear HE
              go_wp2_with fail
              go_quiet (fail)
              go_wp2_with fail
              go_quiet (fail)
              go_wp2_with fail
              try go_quiet (fail)
              go_wp2_with (first
                | (go_at_fn g; refine (HGP.out _).mono ?_; rintro e w9 ⟨rfl, hw9⟩; have HW9 := Lib.hid hw9; clear hw9)
                | fail)
              have ho9 : w9.ownsRow w2.heap.size 23 1 (.slice A' n' c') acc.length (acc.map Un) := by rw [HW9.out]; exact OW.out
              have hb9 : Below w2.heap.size w2 w9 := by rw [HW9.out]; exact ⟨BW.out.os, BW.out.tape, BW.out.output, BW.out.size, BW.out.block⟩
              have HO9 := Lib.hid ho9; have HB9 := Lib.hid hb9
              clear ho9 hb9
              go_roundw
              case rel => exact ⟨x :: a1, b1, acc, _, _, _, _, by first | rfl | (simp only [List.length_cons]; rw [← HNA.out]) | rw [← HNA.out], by first | rfl | (simp only [List.length_cons]; rw [← HNB.out]) | rw [← HNB.out], by (try simp only [List.length_cons, List.length_nil]); have := HNA.out; omega, by omega, by (try simp only [List.length_cons, List.length_nil]); have := HNB.out; omega, by omega, by (try simp only [List.length_cons, List.length_nil, List.length_append] at hlen); (try simp only [List.length_cons, List.length_nil, List.length_append]); have := HNA.out; have := HNB.out; omega, ⟨_, _, _, rfl⟩, (show Aside _ from RA.out), (show Aside _ from HTB.out), (show Aside _ from HO9.out), (show Aside _ from HB9.out), (show Aside _ from HE2.out)⟩
              case measure => simp [lenU]; try omega
            | true =>
              have HE2 := Lib.hid (show (acc ++ [y]) ++ togN p (x :: a1) (b1) = R from by have := HE.out; rw [if_pos rfl] at this; rw [List.append_assoc]; exact this)
              clear HE
              go_wp2_with fail
              go_quiet (fail)
              go_wp2_with fail
              go_quiet (fail)
              go_wp2_with fail
              try go_quiet (fail)
              go_wp2_with (first
                | (go_at_fn g; refine (HGP.out _).mono ?_; rintro e w9 ⟨rfl, hw9⟩; (have ho9 : w9.ownsRow w2.heap.size 23 1 (.slice A' n' c') acc.length (acc.map Un) := (by rw [hw9]; exact OW.out)); (have hb9 : Below w2.heap.size w2 w9 := (by rw [hw9]; exact ⟨BW.out.os, BW.out.tape, BW.out.output, BW.out.size, BW.out.block⟩)); have HO9 := Lib.hid ho9; have HB9 := Lib.hid hb9; clear ho9 hb9 hw9)
                | (at_builtin; go_must (refine wpList_append_u rfl _ _ rfl w2.heap.size _ acc rfl (HO9.out.alloc _) ⟨w9.heap.size, 0, none⟩ 1 [y] rfl (rd_row w9 [Un y] 23) (by have := HL0.out; have := HLEN.out; simp only [List.length_cons, List.length_nil]; omega) (by have := HB9.out.size; rw [World.size_alloc]; omega) ?_; intro v4 w4 own4 grow4 _))
                | fail)
              have HO4 := Lib.hid own4
              have hb4 : Below w2.heap.size w2 w4 := (HB9.out.alloc HB9.out.size _).grown grow4 (by have := HB9.out.size; rw [World.size_alloc]; omega) (fun k h => (HO9.out.lt k h).1)
              have HB4 := Lib.hid hb4
              clear own4 grow4 hb4
              obtain ⟨A8, c8, hv8, -⟩ := own_rdU HO4.out
              subst hv8
              go_roundw
              case rel => exact ⟨x :: a1, b1, acc ++ [y], _, _, _, _, by first | rfl | (simp only [List.length_cons]; rw [← HNA.out]) | rw [← HNA.out], by first | rfl | (simp only [List.length_cons]; rw [← HNB.out]) | rw [← HNB.out], by (try simp only [List.length_cons, List.length_nil]); have := HNA.out; omega, by omega, by (try simp only [List.length_cons, List.length_nil]); have := HNB.out; omega, by omega, by (try simp only [List.length_cons, List.length_nil, List.length_append] at hlen); (try simp only [List.length_cons, List.length_nil, List.length_append]); have := HNA.out; have := HNB.out; omega, ⟨_, _, _, rfl⟩, (show Aside _ from RA.out), (show Aside _ from HTB.out), (show Aside _ from HO4.out), (show Aside _ from HB4.out), (show Aside _ from HE2.out)⟩
              case measure => simp [lenU]; try omega
          · have hxe : y = x := by omega
            subst hxe
            have e1 : (y : Int) ≤ (y : Int) := by omega
            have e3 : decide (y ≤ y) = true := decide_eq_true (by omega)
            have hE := E.out
            rw [togN] at hE
            rw [if_neg hxy, if_neg hyx] at hE
            have hgp := HG.out true true
            obtain ⟨t, ht⟩ : ∃ t, t = p true true := ⟨_, rfl⟩
            rw [← ht] at hgp hE
            have HGP := Lib.hid hgp; have HE := Lib.hid hE
            clear hgp hE ht E
            have HLEN := Lib.hid (show acc.length ≤ a0.length + b0.length by omega)

            cases t with
            | false =>
              have HE2 := Lib.hid (show acc ++ togN p (a1) (b1) = R from by have := HE.out; rwa [if_neg (by simp)] at this)
              clear HE
              go_wp2_with fail
              go_quiet (fail)
              go_wp2_with fail
              go_quiet (fail)
              go_wp2_with fail
              try go_quiet (fail)
              go_wp2_with fail
              try go_quiet (fail)
              go_wp2_with (first
                | (go_at_fn g; refine (HGP.out _).mono ?_; rintro e w9 ⟨rfl, hw9⟩; have HW9 := Lib.hid hw9; clear hw9)
                | fail)
              have ho9 : w9.ownsRow w2.heap.size 23 1 (.slice A' n' c') acc.length (acc.map Un) := by rw [HW9.out]; exact OW.out
              have hb9 : Below w2.heap.size w2 w9 := by rw [HW9.out]; exact ⟨BW.out.os, BW.out.tape, BW.out.output, BW.out.size, BW.out.block⟩
              have HO9 := Lib.hid ho9; have HB9 := Lib.hid hb9
              clear ho9 hb9
              go_roundw
              case rel => exact ⟨a1, b1, acc, _, _, _, _, by first | rfl | (simp only [List.length_cons]; rw [← HNA.out]) | rw [← HNA.out], by first | rfl | (simp only [List.length_cons]; rw [← HNB.out]) | rw [← HNB.out], by (try simp only [List.length_cons, List.length_nil]); have := HNA.out; omega, by omega, by (try simp only [List.length_cons, List.length_nil]); have := HNB.out; omega, by omega, by (try simp only [List.length_cons, List.length_nil, List.length_append] at hlen); (try simp only [List.length_cons, List.length_nil, List.length_append]); have := HNA.out; have := HNB.out; omega, ⟨_, _, _, rfl⟩, (show Aside _ from HTA.out), (show Aside _ from HTB.out), (show Aside _ from HO9.out), (show Aside _ from HB9.out), (show Aside _ from HE2.out)⟩
              case measure => simp [lenU]; try omega
            | true =>
              have HE2 := Lib.hid (show (acc ++ [y]) ++ togN p (a1) (b1) = R from by have := HE.out; rw [if_pos rfl] at this; rw [List.append_assoc]; exact this)
              clear HE
              go_wp2_with fail
              go_quiet (fail)
              go_wp2_with fail
              go_quiet (fail)
              go_wp2_with fail
              try go_quiet (fail)
              go_wp2_with fail
              try go_quiet (fail)
              go_wp2_with (first
                | (go_at_fn g; refine (HGP.out _).mono ?_; rintro e w9 ⟨rfl, hw9⟩; (have ho9 : w9.ownsRow w2.heap.size 23 1 (.slice A' n' c') acc.length (acc.map Un) := (by rw [hw9]; exact OW.out)); (have hb9 : Below w2.heap.size w2 w9 := (by rw [hw9]; exact ⟨BW.out.os, BW.out.tape, BW.out.output, BW.out.size, BW.out.block⟩)); have HO9 := Lib.hid ho9; have HB9 := Lib.hid hb9; clear ho9 hb9 hw9)
                | (at_builtin; go_must (refine wpList_append_u rfl _ _ rfl w2.heap.size _ acc rfl (HO9.out.alloc _) ⟨w9.heap.size, 0, none⟩ 1 [y] rfl (rd_row w9 [Un y] 23) (by have := HL0.out; have := HLEN.out; simp only [List.length_cons, List.length_nil]; omega) (by have := HB9.out.size; rw [World.size_alloc]; omega) ?_; intro v4 w4 own4 grow4 _))
                | fail)
              have HO4 := Lib.hid own4
              have hb4 : Below w2.heap.size w2 w4 := (HB9.out.alloc HB9.out.size _).grown grow4 (by have := HB9.out.size; rw [World.size_alloc]; omega) (fun k h => (HO9.out.lt k h).1)
              have HB4 := Lib.hid hb4
              clear own4 grow4 hb4
              obtain ⟨A8, c8, hv8, -⟩ := own_rdU HO4.out
              subst hv8
              go_roundw
              case rel => exact ⟨a1, b1, acc ++ [y], _, _, _, _, by first | rfl | (simp only [List.length_cons]; rw [← HNA.out]) | rw [← HNA.out], by first | rfl | (simp only [List.length_cons]; rw [← HNB.out]) | rw [← HNB.out], by (try simp only [List.length_cons, List.length_nil]); have := HNA.out; omega, by omega, by (try simp only [List.length_cons, List.length_nil]); have := HNB.out; omega, by omega, by (try simp only [List.length_cons, List.length_nil, List.length_append] at hlen); (try simp only [List.length_cons, List.length_nil, List.length_append]); have := HNA.out; have := HNB.out; omega, ⟨_, _, _, rfl⟩, (show Aside _ from HTA.out), (show Aside _ from HTB.out), (show Aside _ from HO4.out), (show Aside _ from HB4.out), (show Aside _ from HE2.out)⟩
              case measure => simp [lenU]; try omega
end
end
end Go.Proofs.YtjgappbomohlcaaGreatDoor
