/-
  The plain answers: the sign, and the matcher, that a text begins with.
-/
import Derived.Test.YtinjdlplbficiaaGreatDoorRmt
import Derived.Test.YtinjdlplbficiaaGreatDoorRw
import Derived.Test.YtinjdlplbficiaaGreatDoorRu
namespace Go.Proofs.YtinjdlplbficiaaGreatDoor
set_option linter.unusedVariables false
set_option linter.unusedSimpArgs false
open Go.RowKit
def signH : List Nat → Bs → Option (Nat × Bs)
  | [], _ => none
  | k :: r, s => if prefB (signM (k : Int)) s then some (k, s.drop (signM (k : Int)).length) else signH r s
theorem signH_eq (s : Bs) : signF s = signH [3, 2, 4, 1] s := by
  simp only [signH]
  rw [show signM ((3 : Nat) : Int) = [61, 126] from rfl, show signM ((2 : Nat) : Int) = [33, 61] from rfl, show signM ((4 : Nat) : Int) = [33, 126] from rfl, show signM ((1 : Nat) : Int) = [61] from rfl]
  cases s with
  | nil => rfl
  | cons c r =>
    rw [pref_one]
    cases r with
    | nil =>
      rw [pref_short, pref_short, pref_short]
      by_cases h : c = 61
      · subst h; rfl
      · have n0 : ¬ (61 : UInt8) = c := fun e => h e.symm
        simp only [n0, decide_false]
        unfold signF
        split <;> simp_all
    | cons d r =>
      rw [pref_two, pref_two, pref_two]
      by_cases h1 : c = 33
      · subst h1
        by_cases h2 : d = 126
        · subst h2; rfl
        · by_cases h3 : d = 61
          · subst h3; rfl
          · have n2 : ¬ (126 : UInt8) = d := fun e => h2 e.symm
            have n3 : ¬ (61 : UInt8) = d := fun e => h3 e.symm
            simp only [n2, n3, decide_false, Bool.and_false]
            unfold signF
            split <;> simp_all
      · by_cases h4 : c = 61
        · subst h4
          by_cases h2 : d = 126
          · subst h2; rfl
          · have n2 : ¬ (126 : UInt8) = d := fun e => h2 e.symm
            simp only [n2, decide_false, Bool.and_false]
            unfold signF
            split <;> simp_all
        · have n1 : ¬ (33 : UInt8) = c := fun e => h1 e.symm
          have n4 : ¬ (61 : UInt8) = c := fun e => h4 e.symm
          simp only [n1, n4, decide_false, Bool.false_and]
          unfold signF
          split <;> simp_all
def sgT (o : Option (Nat × Bs)) : Value := match o with
  | none => .tuple #[.int .i64 0, .string ⟨#[]⟩]
  | some (k, r) => .tuple #[.int .i64 (k : Nat), .string (mkB r)]
theorem pref_take {m : Bs} {s : ByteArray} (h : m.length ≤ s.size) : prefB m (bl s) = true ↔ (s.extract 0 m.length).toList = m := by
  rw [toList_bl, extract_head, bl_mk]
  unfold prefB
  rw [List.isPrefixOf_iff_prefix, List.prefix_iff_eq_take]
  exact eq_comm
theorem pref_long {m : Bs} {s : ByteArray} (h : ¬ m.length ≤ s.size) : prefB m (bl s) = false := by
  cases hp : prefB m (bl s) with
  | false => rfl
  | true =>
    unfold prefB at hp
    rw [List.isPrefixOf_iff_prefix] at hp
    exact absurd hp.length_le (by rw [bl_len]; exact h)
section
set_option maxHeartbeats 3200000
set_option maxRecDepth 100000
theorem rsigned_any (s : ByteArray) (w : World) (hs : s.size ≤ 1000000) : Calls Tryz.prog 55 #[.string s] w fun e w' => e = .returned (sgT (signF (bl s))) ∧ RowKit.Below w.heap.size w w' := by
  obtain ⟨R, hR⟩ : ∃ R, signF (bl s) = R := ⟨_, rfl⟩
  rw [hR]
  rw [signH_eq] at hR
  have HR := Lib.hid (show signH (([3, 2, 4, 1] : List Nat).drop 0) (bl s) = R from hR)
  obtain ⟨W, hW⟩ : ∃ W, W = w.alloc (.cells #[.int .i64 3, .int .i64 2, .int .i64 4, .int .i64 1] 3) := ⟨_, rfl⟩
  have hbw : RowKit.Below w.heap.size w W := by rw [hW]; exact (RowKit.Below.refl _ w).alloc (Nat.le_refl _) _
  have hg : W.heap[w.heap.size]? = some (.cells #[.int .i64 3, .int .i64 2, .int .i64 4, .int .i64 1] 3 (0, 0)) := by rw [hW]; exact heap_alloc_new w _
  have HS := Lib.hid (fun n => show (W.drewN n).cell? ⟨w.heap.size, 0, none⟩ = some (.int .i64 3) ∧ (W.drewN n).cell? ⟨w.heap.size, 1, none⟩ = some (.int .i64 2) ∧ (W.drewN n).cell? ⟨w.heap.size, 2, none⟩ = some (.int .i64 4) ∧ (W.drewN n).cell? ⟨w.heap.size, 3, none⟩ = some (.int .i64 1) from by
    have e0 := cell_blk hg 0; have e1 := cell_blk hg 1; have e2 := cell_blk hg 2; have e3 := cell_blk hg 3
    simp only [List.getElem?_toArray, List.getElem?_cons_zero, List.getElem?_cons_succ] at e0 e1 e2 e3
    exact ⟨e0, e1, e2, e3⟩)
  have HBW := Lib.hid hbw; have HW := Lib.hid hW
  clear hR hW hbw hg
  go_enter Tryz.func55, Tryz.ntmps55
  go_wp2_with fail
  rw [← HW.out]
  go_loopw [9] (fun s9 wr => ∃ (k n : Nat), s9 = .int .i64 k ∧ k ≤ 4 ∧ wr = W.drewN n ∧ Aside (signH (([3, 2, 4, 1] : List Nat).drop k) (bl s) = R)) (fun s9 _ => 4 - (intOf s9).toNat)
  case atStart => exact ⟨0, 0, rfl, by omega, rfl, HR.out⟩
  case round =>
    obtain ⟨k, n, rfl, hk, rfl, E⟩ := hrel
    obtain ⟨e0, e1, e2, e3⟩ := HS.out n
    have hnn : ∀ q, (W.drewN n).drewN q = W.drewN (n + q) := fun q => World.drewN_drewN _ _ _
    have HNN := Lib.hid hnn; clear hnn
    have h5 : k = 0 ∨ k = 1 ∨ k = 2 ∨ k = 3 ∨ k = 4 := by omega
    rcases h5 with rfl | rfl | rfl | rfl | rfl
    · have hsg := fun W' => rsign_any 3 W'
      rw [show mkB (signM 3) = ⟨#[61, 126]⟩ from rfl] at hsg
      have HSG := Lib.hid hsg; clear hsg
      have hE := E.out
      unfold signH at hE
      have hst : ∀ b, prefB [61, 126] (bl s) = b → (if b then some (3, (bl s).drop 2) else signH (([3, 2, 4, 1] : List Nat).drop 1) (bl s)) = R := fun b hb => by rw [← hE, ← hb]; rfl
      have HST := Lib.hid hst; clear hst hE E
      by_cases hl : 2 ≤ s.size
      rotate_left
      · have hp := pref_long (m := [61, 126]) (s := s) hl
        have hl2 : decide ((2 : Int) ≤ (s.size : Int)) = false := decide_eq_false (by omega)
        have HE2 := Lib.hid (HST.out false hp)
        clear hp hl HST
        go_wp2_with fail
        refine (HSG.out _).mono ?_
        rintro e w1 ⟨rfl, rfl⟩
        go_wp2_with fail
        refine wp_region_noPanic ?_
        refine wp_region_held_drew (S := fun _ => True) (by kernel_rfl) ?_ (fun hHeld => ?_)
        · try dsimp only
          all_goals trivial
        refine wpAnyH_take (i := 0) (oi := ⟨_, _, _, _, _, _⟩) (v := ?_) rfl (by kernel_rfl) (by kernel_rfl) (by kernel_rfl) (fun _ _ _ h => h) (Or.inl ⟨by rfl, ?_⟩) (by assumption) ?_
        rotate_left
        · intro w hSw; (try dsimp only at hSw); go_simp; try with_reducible rfl
        try simp only [Act.put, List.setIfInBounds_toArray, List.set_cons_zero, List.set_cons_succ]
        refine wpAnyH_take (i := 1) (oi := ⟨_, _, _, _, _, _⟩) (v := ?_) rfl (by kernel_rfl) (by kernel_rfl) (by kernel_rfl) (fun _ _ _ h => h) (Or.inl ⟨by rfl, ?_⟩) (by assumption) ?_
        rotate_left
        · intro w hSw; (try dsimp only at hSw); go_simp; try with_reducible rfl
        try simp only [Act.put, List.setIfInBounds_toArray, List.set_cons_zero, List.set_cons_succ]
        refine wpAnyH_take (i := 2) (oi := ⟨_, _, _, _, _, _⟩) (v := ?_) rfl (by kernel_rfl) (by kernel_rfl) (by kernel_rfl) (fun _ _ _ h => h) (Or.inl ⟨by rfl, ?_⟩) (by assumption) ?_
        rotate_left
        · intro w hSw; (try dsimp only at hSw); go_simp; try with_reducible rfl
        try simp only [Act.put, List.setIfInBounds_toArray, List.set_cons_zero, List.set_cons_succ]
        refine wpAnyH_take (i := 3) (oi := ⟨_, _, _, _, _, _⟩) (v := ?_) rfl (by kernel_rfl) (by kernel_rfl) (by kernel_rfl) (fun _ _ _ h => h) (Or.inl ⟨by rfl, ?_⟩) (by assumption) ?_
        rotate_left
        · intro w hSw; (try dsimp only at hSw); go_simp; try with_reducible rfl
        try simp only [Act.put, List.setIfInBounds_toArray, List.set_cons_zero, List.set_cons_succ]
        refine wpAnyH_take (i := 4) (oi := ⟨_, _, _, _, _, _⟩) (v := ?_) rfl (by kernel_rfl) (by kernel_rfl) (by kernel_rfl) (fun _ _ _ h => h) (Or.inl ⟨by rfl, ?_⟩) (by assumption) ?_
        rotate_left
        · intro w hSw; (try dsimp only at hSw); go_simp; try with_reducible rfl
        try simp only [Act.put, List.setIfInBounds_toArray, List.set_cons_zero, List.set_cons_succ]
        refine wpAnyH_take (i := 5) (oi := ⟨_, _, _, _, _, _⟩) rfl (by kernel_rfl) (by kernel_rfl) (by kernel_rfl) (fun _ _ _ h => h) (Or.inr ⟨by rfl, rfl⟩) (by assumption) ?_
        try simp only [Act.put, List.setIfInBounds_toArray, List.set_cons_zero, List.set_cons_succ]
        refine wpAnyH_take (i := 6) (oi := ⟨_, _, _, _, _, _⟩) rfl (by kernel_rfl) (by kernel_rfl) (by kernel_rfl) (fun _ _ _ h => h) (Or.inr ⟨by rfl, rfl⟩) (by assumption) ?_
        try simp only [Act.put, List.setIfInBounds_toArray, List.set_cons_zero, List.set_cons_succ]
        refine wpAnyH_take (i := 7) (oi := ⟨_, _, _, _, _, _⟩) rfl (by kernel_rfl) (by kernel_rfl) (by kernel_rfl) (fun _ _ _ h => h) (Or.inr ⟨by rfl, rfl⟩) (by assumption) ?_
        try simp only [Act.put, List.setIfInBounds_toArray, List.set_cons_zero, List.set_cons_succ]
        refine wpAnyH_take (i := 8) (oi := ⟨_, _, _, _, _, _⟩) rfl (by kernel_rfl) (by kernel_rfl) (by kernel_rfl) (fun _ _ _ h => h) (Or.inr ⟨by rfl, rfl⟩) (by assumption) ?_
        try simp only [Act.put, List.setIfInBounds_toArray, List.set_cons_zero, List.set_cons_succ]
        refine wpAnyH_take (i := 9) (oi := ⟨_, _, _, _, _, _⟩) rfl (by kernel_rfl) (by kernel_rfl) (by kernel_rfl) (fun _ _ _ h => h) (Or.inr ⟨by rfl, rfl⟩) (by assumption) ?_
        try simp only [Act.put, List.setIfInBounds_toArray, List.set_cons_zero, List.set_cons_succ]
        refine wpAnyH_take (i := 10) (oi := ⟨_, _, _, _, _, _⟩) rfl (by kernel_rfl) (by kernel_rfl) (by kernel_rfl) (fun _ _ _ h => h) (Or.inr ⟨by rfl, rfl⟩) (by assumption) ?_
        try simp only [Act.put, List.setIfInBounds_toArray, List.set_cons_zero, List.set_cons_succ]
        refine wpAnyH_take (i := 11) (oi := ⟨_, _, _, _, _, _⟩) (v := ?_) rfl (by kernel_rfl) (by kernel_rfl) (by kernel_rfl) (fun _ _ _ h => h) (Or.inl ⟨by rfl, ?_⟩) (by assumption) ?_
        rotate_left
        · intro w hSw; (try dsimp only at hSw); go_simp; try with_reducible rfl
        try simp only [Act.put, List.setIfInBounds_toArray, List.set_cons_zero, List.set_cons_succ]
        refine wpAnyH_done (by kernel_rfl) ?_ _
        refine NoPanic.normal ?_
        all_goals
          go_wp2_with fail
          go_roundw
          case rel => exact ⟨1, _, by go_num, by omega, rfl, (show Aside _ from HE2.out)⟩
          case measure => simp [intOf]
      have hl2 : (2 : Int) ≤ (s.size : Int) := by omega
      have hl3 : decide ((2 : Int) ≤ (s.size : Int)) = true := decide_eq_true hl2
      have hpt := pref_take (m := [61, 126]) (s := s) hl
      cases hp : prefB [61, 126] (bl s) with
      | false =>
        have hq : ¬ (s.extract 0 2).toList = [61, 126] := fun e => by rw [hpt.2 e] at hp; cases hp
        have hq2 : ((s.extract 0 2).toList == [61, 126]) = false := beq_eq_false_iff_ne.2 hq
        have HE2 := Lib.hid (HST.out false hp)
        clear hp hl HST hpt
        go_wp2_with fail
        refine (HSG.out _).mono ?_
        rintro e w1 ⟨rfl, rfl⟩
        go_wp2_with fail
        go_region_held3 (fun W' => True) (trivial) (first
          | (go_at_call 41; go_must (refine (HSG.out _).mono ?_; rintro e wq ⟨rfl, rfl⟩))
          | fail)
        all_goals
          go_wp2_with fail
          go_roundw
          case rel => exact ⟨1, _, by go_num, by omega, rfl, (show Aside _ from HE2.out)⟩
          case measure => simp [intOf]
      | true =>
        have hq : (s.extract 0 2).toList = [61, 126] := hpt.1 hp
        have hr : R = some (3, (bl s).drop 2) := (HST.out true hp).symm
        subst hr
        clear hp hl HST hpt
        go_wp2_with fail
        refine (HSG.out _).mono ?_
        rintro e w1 ⟨rfl, rfl⟩
        go_wp2_with fail
        go_region_held3 (fun W' => True) (trivial) (first
          | (go_at_call 41; go_must (refine (HSG.out _).mono ?_; rintro e wq ⟨rfl, rfl⟩))
          | fail)
        all_goals
          go_wp2_with fail
          go_quiet (fail)
          go_wp2
          go_ret2
          exact ⟨by rw [extract_tail]; rfl, by first | exact below_drewN (below_drewN HBW.out _) _ | exact below_drewN (below_drewN (below_drewN HBW.out _) _) _⟩
    · have hsg := fun W' => rsign_any 2 W'
      rw [show mkB (signM 2) = ⟨#[33, 61]⟩ from rfl] at hsg
      have HSG := Lib.hid hsg; clear hsg
      have hE := E.out
      unfold signH at hE
      have hst : ∀ b, prefB [33, 61] (bl s) = b → (if b then some (2, (bl s).drop 2) else signH (([3, 2, 4, 1] : List Nat).drop 2) (bl s)) = R := fun b hb => by rw [← hE, ← hb]; rfl
      have HST := Lib.hid hst; clear hst hE E
      by_cases hl : 2 ≤ s.size
      rotate_left
      · have hp := pref_long (m := [33, 61]) (s := s) hl
        have hl2 : decide ((2 : Int) ≤ (s.size : Int)) = false := decide_eq_false (by omega)
        have HE2 := Lib.hid (HST.out false hp)
        clear hp hl HST
        go_wp2_with fail
        refine (HSG.out _).mono ?_
        rintro e w1 ⟨rfl, rfl⟩
        go_wp2_with fail
        refine wp_region_noPanic ?_
        refine wp_region_held_drew (S := fun _ => True) (by kernel_rfl) ?_ (fun hHeld => ?_)
        · try dsimp only
          all_goals trivial
        refine wpAnyH_take (i := 0) (oi := ⟨_, _, _, _, _, _⟩) (v := ?_) rfl (by kernel_rfl) (by kernel_rfl) (by kernel_rfl) (fun _ _ _ h => h) (Or.inl ⟨by rfl, ?_⟩) (by assumption) ?_
        rotate_left
        · intro w hSw; (try dsimp only at hSw); go_simp; try with_reducible rfl
        try simp only [Act.put, List.setIfInBounds_toArray, List.set_cons_zero, List.set_cons_succ]
        refine wpAnyH_take (i := 1) (oi := ⟨_, _, _, _, _, _⟩) (v := ?_) rfl (by kernel_rfl) (by kernel_rfl) (by kernel_rfl) (fun _ _ _ h => h) (Or.inl ⟨by rfl, ?_⟩) (by assumption) ?_
        rotate_left
        · intro w hSw; (try dsimp only at hSw); go_simp; try with_reducible rfl
        try simp only [Act.put, List.setIfInBounds_toArray, List.set_cons_zero, List.set_cons_succ]
        refine wpAnyH_take (i := 2) (oi := ⟨_, _, _, _, _, _⟩) (v := ?_) rfl (by kernel_rfl) (by kernel_rfl) (by kernel_rfl) (fun _ _ _ h => h) (Or.inl ⟨by rfl, ?_⟩) (by assumption) ?_
        rotate_left
        · intro w hSw; (try dsimp only at hSw); go_simp; try with_reducible rfl
        try simp only [Act.put, List.setIfInBounds_toArray, List.set_cons_zero, List.set_cons_succ]
        refine wpAnyH_take (i := 3) (oi := ⟨_, _, _, _, _, _⟩) (v := ?_) rfl (by kernel_rfl) (by kernel_rfl) (by kernel_rfl) (fun _ _ _ h => h) (Or.inl ⟨by rfl, ?_⟩) (by assumption) ?_
        rotate_left
        · intro w hSw; (try dsimp only at hSw); go_simp; try with_reducible rfl
        try simp only [Act.put, List.setIfInBounds_toArray, List.set_cons_zero, List.set_cons_succ]
        refine wpAnyH_take (i := 4) (oi := ⟨_, _, _, _, _, _⟩) (v := ?_) rfl (by kernel_rfl) (by kernel_rfl) (by kernel_rfl) (fun _ _ _ h => h) (Or.inl ⟨by rfl, ?_⟩) (by assumption) ?_
        rotate_left
        · intro w hSw; (try dsimp only at hSw); go_simp; try with_reducible rfl
        try simp only [Act.put, List.setIfInBounds_toArray, List.set_cons_zero, List.set_cons_succ]
        refine wpAnyH_take (i := 5) (oi := ⟨_, _, _, _, _, _⟩) rfl (by kernel_rfl) (by kernel_rfl) (by kernel_rfl) (fun _ _ _ h => h) (Or.inr ⟨by rfl, rfl⟩) (by assumption) ?_
        try simp only [Act.put, List.setIfInBounds_toArray, List.set_cons_zero, List.set_cons_succ]
        refine wpAnyH_take (i := 6) (oi := ⟨_, _, _, _, _, _⟩) rfl (by kernel_rfl) (by kernel_rfl) (by kernel_rfl) (fun _ _ _ h => h) (Or.inr ⟨by rfl, rfl⟩) (by assumption) ?_
        try simp only [Act.put, List.setIfInBounds_toArray, List.set_cons_zero, List.set_cons_succ]
        refine wpAnyH_take (i := 7) (oi := ⟨_, _, _, _, _, _⟩) rfl (by kernel_rfl) (by kernel_rfl) (by kernel_rfl) (fun _ _ _ h => h) (Or.inr ⟨by rfl, rfl⟩) (by assumption) ?_
        try simp only [Act.put, List.setIfInBounds_toArray, List.set_cons_zero, List.set_cons_succ]
        refine wpAnyH_take (i := 8) (oi := ⟨_, _, _, _, _, _⟩) rfl (by kernel_rfl) (by kernel_rfl) (by kernel_rfl) (fun _ _ _ h => h) (Or.inr ⟨by rfl, rfl⟩) (by assumption) ?_
        try simp only [Act.put, List.setIfInBounds_toArray, List.set_cons_zero, List.set_cons_succ]
        refine wpAnyH_take (i := 9) (oi := ⟨_, _, _, _, _, _⟩) rfl (by kernel_rfl) (by kernel_rfl) (by kernel_rfl) (fun _ _ _ h => h) (Or.inr ⟨by rfl, rfl⟩) (by assumption) ?_
        try simp only [Act.put, List.setIfInBounds_toArray, List.set_cons_zero, List.set_cons_succ]
        refine wpAnyH_take (i := 10) (oi := ⟨_, _, _, _, _, _⟩) rfl (by kernel_rfl) (by kernel_rfl) (by kernel_rfl) (fun _ _ _ h => h) (Or.inr ⟨by rfl, rfl⟩) (by assumption) ?_
        try simp only [Act.put, List.setIfInBounds_toArray, List.set_cons_zero, List.set_cons_succ]
        refine wpAnyH_take (i := 11) (oi := ⟨_, _, _, _, _, _⟩) (v := ?_) rfl (by kernel_rfl) (by kernel_rfl) (by kernel_rfl) (fun _ _ _ h => h) (Or.inl ⟨by rfl, ?_⟩) (by assumption) ?_
        rotate_left
        · intro w hSw; (try dsimp only at hSw); go_simp; try with_reducible rfl
        try simp only [Act.put, List.setIfInBounds_toArray, List.set_cons_zero, List.set_cons_succ]
        refine wpAnyH_done (by kernel_rfl) ?_ _
        refine NoPanic.normal ?_
        all_goals
          go_wp2_with fail
          go_roundw
          case rel => exact ⟨2, _, by go_num, by omega, rfl, (show Aside _ from HE2.out)⟩
          case measure => simp [intOf]
      have hl2 : (2 : Int) ≤ (s.size : Int) := by omega
      have hl3 : decide ((2 : Int) ≤ (s.size : Int)) = true := decide_eq_true hl2
      have hpt := pref_take (m := [33, 61]) (s := s) hl
      cases hp : prefB [33, 61] (bl s) with
      | false =>
        have hq : ¬ (s.extract 0 2).toList = [33, 61] := fun e => by rw [hpt.2 e] at hp; cases hp
        have hq2 : ((s.extract 0 2).toList == [33, 61]) = false := beq_eq_false_iff_ne.2 hq
        have HE2 := Lib.hid (HST.out false hp)
        clear hp hl HST hpt
        go_wp2_with fail
        refine (HSG.out _).mono ?_
        rintro e w1 ⟨rfl, rfl⟩
        go_wp2_with fail
        go_region_held3 (fun W' => True) (trivial) (first
          | (go_at_call 41; go_must (refine (HSG.out _).mono ?_; rintro e wq ⟨rfl, rfl⟩))
          | fail)
        all_goals
          go_wp2_with fail
          go_roundw
          case rel => exact ⟨2, _, by go_num, by omega, rfl, (show Aside _ from HE2.out)⟩
          case measure => simp [intOf]
      | true =>
        have hq : (s.extract 0 2).toList = [33, 61] := hpt.1 hp
        have hr : R = some (2, (bl s).drop 2) := (HST.out true hp).symm
        subst hr
        clear hp hl HST hpt
        go_wp2_with fail
        refine (HSG.out _).mono ?_
        rintro e w1 ⟨rfl, rfl⟩
        go_wp2_with fail
        go_region_held3 (fun W' => True) (trivial) (first
          | (go_at_call 41; go_must (refine (HSG.out _).mono ?_; rintro e wq ⟨rfl, rfl⟩))
          | fail)
        all_goals
          go_wp2_with fail
          go_quiet (fail)
          go_wp2
          go_ret2
          exact ⟨by rw [extract_tail]; rfl, by first | exact below_drewN (below_drewN HBW.out _) _ | exact below_drewN (below_drewN (below_drewN HBW.out _) _) _⟩
    · have hsg := fun W' => rsign_any 4 W'
      rw [show mkB (signM 4) = ⟨#[33, 126]⟩ from rfl] at hsg
      have HSG := Lib.hid hsg; clear hsg
      have hE := E.out
      unfold signH at hE
      have hst : ∀ b, prefB [33, 126] (bl s) = b → (if b then some (4, (bl s).drop 2) else signH (([3, 2, 4, 1] : List Nat).drop 3) (bl s)) = R := fun b hb => by rw [← hE, ← hb]; rfl
      have HST := Lib.hid hst; clear hst hE E
      by_cases hl : 2 ≤ s.size
      rotate_left
      · have hp := pref_long (m := [33, 126]) (s := s) hl
        have hl2 : decide ((2 : Int) ≤ (s.size : Int)) = false := decide_eq_false (by omega)
        have HE2 := Lib.hid (HST.out false hp)
        clear hp hl HST
        go_wp2_with fail
        refine (HSG.out _).mono ?_
        rintro e w1 ⟨rfl, rfl⟩
        go_wp2_with fail
        refine wp_region_noPanic ?_
        refine wp_region_held_drew (S := fun _ => True) (by kernel_rfl) ?_ (fun hHeld => ?_)
        · try dsimp only
          all_goals trivial
        refine wpAnyH_take (i := 0) (oi := ⟨_, _, _, _, _, _⟩) (v := ?_) rfl (by kernel_rfl) (by kernel_rfl) (by kernel_rfl) (fun _ _ _ h => h) (Or.inl ⟨by rfl, ?_⟩) (by assumption) ?_
        rotate_left
        · intro w hSw; (try dsimp only at hSw); go_simp; try with_reducible rfl
        try simp only [Act.put, List.setIfInBounds_toArray, List.set_cons_zero, List.set_cons_succ]
        refine wpAnyH_take (i := 1) (oi := ⟨_, _, _, _, _, _⟩) (v := ?_) rfl (by kernel_rfl) (by kernel_rfl) (by kernel_rfl) (fun _ _ _ h => h) (Or.inl ⟨by rfl, ?_⟩) (by assumption) ?_
        rotate_left
        · intro w hSw; (try dsimp only at hSw); go_simp; try with_reducible rfl
        try simp only [Act.put, List.setIfInBounds_toArray, List.set_cons_zero, List.set_cons_succ]
        refine wpAnyH_take (i := 2) (oi := ⟨_, _, _, _, _, _⟩) (v := ?_) rfl (by kernel_rfl) (by kernel_rfl) (by kernel_rfl) (fun _ _ _ h => h) (Or.inl ⟨by rfl, ?_⟩) (by assumption) ?_
        rotate_left
        · intro w hSw; (try dsimp only at hSw); go_simp; try with_reducible rfl
        try simp only [Act.put, List.setIfInBounds_toArray, List.set_cons_zero, List.set_cons_succ]
        refine wpAnyH_take (i := 3) (oi := ⟨_, _, _, _, _, _⟩) (v := ?_) rfl (by kernel_rfl) (by kernel_rfl) (by kernel_rfl) (fun _ _ _ h => h) (Or.inl ⟨by rfl, ?_⟩) (by assumption) ?_
        rotate_left
        · intro w hSw; (try dsimp only at hSw); go_simp; try with_reducible rfl
        try simp only [Act.put, List.setIfInBounds_toArray, List.set_cons_zero, List.set_cons_succ]
        refine wpAnyH_take (i := 4) (oi := ⟨_, _, _, _, _, _⟩) (v := ?_) rfl (by kernel_rfl) (by kernel_rfl) (by kernel_rfl) (fun _ _ _ h => h) (Or.inl ⟨by rfl, ?_⟩) (by assumption) ?_
        rotate_left
        · intro w hSw; (try dsimp only at hSw); go_simp; try with_reducible rfl
        try simp only [Act.put, List.setIfInBounds_toArray, List.set_cons_zero, List.set_cons_succ]
        refine wpAnyH_take (i := 5) (oi := ⟨_, _, _, _, _, _⟩) rfl (by kernel_rfl) (by kernel_rfl) (by kernel_rfl) (fun _ _ _ h => h) (Or.inr ⟨by rfl, rfl⟩) (by assumption) ?_
        try simp only [Act.put, List.setIfInBounds_toArray, List.set_cons_zero, List.set_cons_succ]
        refine wpAnyH_take (i := 6) (oi := ⟨_, _, _, _, _, _⟩) rfl (by kernel_rfl) (by kernel_rfl) (by kernel_rfl) (fun _ _ _ h => h) (Or.inr ⟨by rfl, rfl⟩) (by assumption) ?_
        try simp only [Act.put, List.setIfInBounds_toArray, List.set_cons_zero, List.set_cons_succ]
        refine wpAnyH_take (i := 7) (oi := ⟨_, _, _, _, _, _⟩) rfl (by kernel_rfl) (by kernel_rfl) (by kernel_rfl) (fun _ _ _ h => h) (Or.inr ⟨by rfl, rfl⟩) (by assumption) ?_
        try simp only [Act.put, List.setIfInBounds_toArray, List.set_cons_zero, List.set_cons_succ]
        refine wpAnyH_take (i := 8) (oi := ⟨_, _, _, _, _, _⟩) rfl (by kernel_rfl) (by kernel_rfl) (by kernel_rfl) (fun _ _ _ h => h) (Or.inr ⟨by rfl, rfl⟩) (by assumption) ?_
        try simp only [Act.put, List.setIfInBounds_toArray, List.set_cons_zero, List.set_cons_succ]
        refine wpAnyH_take (i := 9) (oi := ⟨_, _, _, _, _, _⟩) rfl (by kernel_rfl) (by kernel_rfl) (by kernel_rfl) (fun _ _ _ h => h) (Or.inr ⟨by rfl, rfl⟩) (by assumption) ?_
        try simp only [Act.put, List.setIfInBounds_toArray, List.set_cons_zero, List.set_cons_succ]
        refine wpAnyH_take (i := 10) (oi := ⟨_, _, _, _, _, _⟩) rfl (by kernel_rfl) (by kernel_rfl) (by kernel_rfl) (fun _ _ _ h => h) (Or.inr ⟨by rfl, rfl⟩) (by assumption) ?_
        try simp only [Act.put, List.setIfInBounds_toArray, List.set_cons_zero, List.set_cons_succ]
        refine wpAnyH_take (i := 11) (oi := ⟨_, _, _, _, _, _⟩) (v := ?_) rfl (by kernel_rfl) (by kernel_rfl) (by kernel_rfl) (fun _ _ _ h => h) (Or.inl ⟨by rfl, ?_⟩) (by assumption) ?_
        rotate_left
        · intro w hSw; (try dsimp only at hSw); go_simp; try with_reducible rfl
        try simp only [Act.put, List.setIfInBounds_toArray, List.set_cons_zero, List.set_cons_succ]
        refine wpAnyH_done (by kernel_rfl) ?_ _
        refine NoPanic.normal ?_
        all_goals
          go_wp2_with fail
          go_roundw
          case rel => exact ⟨3, _, by go_num, by omega, rfl, (show Aside _ from HE2.out)⟩
          case measure => simp [intOf]
      have hl2 : (2 : Int) ≤ (s.size : Int) := by omega
      have hl3 : decide ((2 : Int) ≤ (s.size : Int)) = true := decide_eq_true hl2
      have hpt := pref_take (m := [33, 126]) (s := s) hl
      cases hp : prefB [33, 126] (bl s) with
      | false =>
        have hq : ¬ (s.extract 0 2).toList = [33, 126] := fun e => by rw [hpt.2 e] at hp; cases hp
        have hq2 : ((s.extract 0 2).toList == [33, 126]) = false := beq_eq_false_iff_ne.2 hq
        have HE2 := Lib.hid (HST.out false hp)
        clear hp hl HST hpt
        go_wp2_with fail
        refine (HSG.out _).mono ?_
        rintro e w1 ⟨rfl, rfl⟩
        go_wp2_with fail
        go_region_held3 (fun W' => True) (trivial) (first
          | (go_at_call 41; go_must (refine (HSG.out _).mono ?_; rintro e wq ⟨rfl, rfl⟩))
          | fail)
        all_goals
          go_wp2_with fail
          go_roundw
          case rel => exact ⟨3, _, by go_num, by omega, rfl, (show Aside _ from HE2.out)⟩
          case measure => simp [intOf]
      | true =>
        have hq : (s.extract 0 2).toList = [33, 126] := hpt.1 hp
        have hr : R = some (4, (bl s).drop 2) := (HST.out true hp).symm
        subst hr
        clear hp hl HST hpt
        go_wp2_with fail
        refine (HSG.out _).mono ?_
        rintro e w1 ⟨rfl, rfl⟩
        go_wp2_with fail
        go_region_held3 (fun W' => True) (trivial) (first
          | (go_at_call 41; go_must (refine (HSG.out _).mono ?_; rintro e wq ⟨rfl, rfl⟩))
          | fail)
        all_goals
          go_wp2_with fail
          go_quiet (fail)
          go_wp2
          go_ret2
          exact ⟨by rw [extract_tail]; rfl, by first | exact below_drewN (below_drewN HBW.out _) _ | exact below_drewN (below_drewN (below_drewN HBW.out _) _) _⟩
    · have hsg := fun W' => rsign_any 1 W'
      rw [show mkB (signM 1) = ⟨#[61]⟩ from rfl] at hsg
      have HSG := Lib.hid hsg; clear hsg
      have hE := E.out
      unfold signH at hE
      have hst : ∀ b, prefB [61] (bl s) = b → (if b then some (1, (bl s).drop 1) else signH (([3, 2, 4, 1] : List Nat).drop 4) (bl s)) = R := fun b hb => by rw [← hE, ← hb]; rfl
      have HST := Lib.hid hst; clear hst hE E
      by_cases hl : 1 ≤ s.size
      rotate_left
      · have hp := pref_long (m := [61]) (s := s) hl
        have hl2 : decide ((1 : Int) ≤ (s.size : Int)) = false := decide_eq_false (by omega)
        have HE2 := Lib.hid (HST.out false hp)
        clear hp hl HST
        go_wp2_with fail
        refine (HSG.out _).mono ?_
        rintro e w1 ⟨rfl, rfl⟩
        go_wp2_with fail
        refine wp_region_noPanic ?_
        refine wp_region_held_drew (S := fun _ => True) (by kernel_rfl) ?_ (fun hHeld => ?_)
        · try dsimp only
          all_goals trivial
        refine wpAnyH_take (i := 0) (oi := ⟨_, _, _, _, _, _⟩) (v := ?_) rfl (by kernel_rfl) (by kernel_rfl) (by kernel_rfl) (fun _ _ _ h => h) (Or.inl ⟨by rfl, ?_⟩) (by assumption) ?_
        rotate_left
        · intro w hSw; (try dsimp only at hSw); go_simp; try with_reducible rfl
        try simp only [Act.put, List.setIfInBounds_toArray, List.set_cons_zero, List.set_cons_succ]
        refine wpAnyH_take (i := 1) (oi := ⟨_, _, _, _, _, _⟩) (v := ?_) rfl (by kernel_rfl) (by kernel_rfl) (by kernel_rfl) (fun _ _ _ h => h) (Or.inl ⟨by rfl, ?_⟩) (by assumption) ?_
        rotate_left
        · intro w hSw; (try dsimp only at hSw); go_simp; try with_reducible rfl
        try simp only [Act.put, List.setIfInBounds_toArray, List.set_cons_zero, List.set_cons_succ]
        refine wpAnyH_take (i := 2) (oi := ⟨_, _, _, _, _, _⟩) (v := ?_) rfl (by kernel_rfl) (by kernel_rfl) (by kernel_rfl) (fun _ _ _ h => h) (Or.inl ⟨by rfl, ?_⟩) (by assumption) ?_
        rotate_left
        · intro w hSw; (try dsimp only at hSw); go_simp; try with_reducible rfl
        try simp only [Act.put, List.setIfInBounds_toArray, List.set_cons_zero, List.set_cons_succ]
        refine wpAnyH_take (i := 3) (oi := ⟨_, _, _, _, _, _⟩) (v := ?_) rfl (by kernel_rfl) (by kernel_rfl) (by kernel_rfl) (fun _ _ _ h => h) (Or.inl ⟨by rfl, ?_⟩) (by assumption) ?_
        rotate_left
        · intro w hSw; (try dsimp only at hSw); go_simp; try with_reducible rfl
        try simp only [Act.put, List.setIfInBounds_toArray, List.set_cons_zero, List.set_cons_succ]
        refine wpAnyH_take (i := 4) (oi := ⟨_, _, _, _, _, _⟩) (v := ?_) rfl (by kernel_rfl) (by kernel_rfl) (by kernel_rfl) (fun _ _ _ h => h) (Or.inl ⟨by rfl, ?_⟩) (by assumption) ?_
        rotate_left
        · intro w hSw; (try dsimp only at hSw); go_simp; try with_reducible rfl
        try simp only [Act.put, List.setIfInBounds_toArray, List.set_cons_zero, List.set_cons_succ]
        refine wpAnyH_take (i := 5) (oi := ⟨_, _, _, _, _, _⟩) rfl (by kernel_rfl) (by kernel_rfl) (by kernel_rfl) (fun _ _ _ h => h) (Or.inr ⟨by rfl, rfl⟩) (by assumption) ?_
        try simp only [Act.put, List.setIfInBounds_toArray, List.set_cons_zero, List.set_cons_succ]
        refine wpAnyH_take (i := 6) (oi := ⟨_, _, _, _, _, _⟩) rfl (by kernel_rfl) (by kernel_rfl) (by kernel_rfl) (fun _ _ _ h => h) (Or.inr ⟨by rfl, rfl⟩) (by assumption) ?_
        try simp only [Act.put, List.setIfInBounds_toArray, List.set_cons_zero, List.set_cons_succ]
        refine wpAnyH_take (i := 7) (oi := ⟨_, _, _, _, _, _⟩) rfl (by kernel_rfl) (by kernel_rfl) (by kernel_rfl) (fun _ _ _ h => h) (Or.inr ⟨by rfl, rfl⟩) (by assumption) ?_
        try simp only [Act.put, List.setIfInBounds_toArray, List.set_cons_zero, List.set_cons_succ]
        refine wpAnyH_take (i := 8) (oi := ⟨_, _, _, _, _, _⟩) rfl (by kernel_rfl) (by kernel_rfl) (by kernel_rfl) (fun _ _ _ h => h) (Or.inr ⟨by rfl, rfl⟩) (by assumption) ?_
        try simp only [Act.put, List.setIfInBounds_toArray, List.set_cons_zero, List.set_cons_succ]
        refine wpAnyH_take (i := 9) (oi := ⟨_, _, _, _, _, _⟩) rfl (by kernel_rfl) (by kernel_rfl) (by kernel_rfl) (fun _ _ _ h => h) (Or.inr ⟨by rfl, rfl⟩) (by assumption) ?_
        try simp only [Act.put, List.setIfInBounds_toArray, List.set_cons_zero, List.set_cons_succ]
        refine wpAnyH_take (i := 10) (oi := ⟨_, _, _, _, _, _⟩) rfl (by kernel_rfl) (by kernel_rfl) (by kernel_rfl) (fun _ _ _ h => h) (Or.inr ⟨by rfl, rfl⟩) (by assumption) ?_
        try simp only [Act.put, List.setIfInBounds_toArray, List.set_cons_zero, List.set_cons_succ]
        refine wpAnyH_take (i := 11) (oi := ⟨_, _, _, _, _, _⟩) (v := ?_) rfl (by kernel_rfl) (by kernel_rfl) (by kernel_rfl) (fun _ _ _ h => h) (Or.inl ⟨by rfl, ?_⟩) (by assumption) ?_
        rotate_left
        · intro w hSw; (try dsimp only at hSw); go_simp; try with_reducible rfl
        try simp only [Act.put, List.setIfInBounds_toArray, List.set_cons_zero, List.set_cons_succ]
        refine wpAnyH_done (by kernel_rfl) ?_ _
        refine NoPanic.normal ?_
        all_goals
          go_wp2_with fail
          go_roundw
          case rel => exact ⟨4, _, by go_num, by omega, rfl, (show Aside _ from HE2.out)⟩
          case measure => simp [intOf]
      have hl2 : (1 : Int) ≤ (s.size : Int) := by omega
      have hl3 : decide ((1 : Int) ≤ (s.size : Int)) = true := decide_eq_true hl2
      have hpt := pref_take (m := [61]) (s := s) hl
      cases hp : prefB [61] (bl s) with
      | false =>
        have hq : ¬ (s.extract 0 1).toList = [61] := fun e => by rw [hpt.2 e] at hp; cases hp
        have hq2 : ((s.extract 0 1).toList == [61]) = false := beq_eq_false_iff_ne.2 hq
        have HE2 := Lib.hid (HST.out false hp)
        clear hp hl HST hpt
        go_wp2_with fail
        refine (HSG.out _).mono ?_
        rintro e w1 ⟨rfl, rfl⟩
        go_wp2_with fail
        go_region_held3 (fun W' => True) (trivial) (first
          | (go_at_call 41; go_must (refine (HSG.out _).mono ?_; rintro e wq ⟨rfl, rfl⟩))
          | fail)
        all_goals
          go_wp2_with fail
          go_roundw
          case rel => exact ⟨4, _, by go_num, by omega, rfl, (show Aside _ from HE2.out)⟩
          case measure => simp [intOf]
      | true =>
        have hq : (s.extract 0 1).toList = [61] := hpt.1 hp
        have hr : R = some (1, (bl s).drop 1) := (HST.out true hp).symm
        subst hr
        clear hp hl HST hpt
        go_wp2_with fail
        refine (HSG.out _).mono ?_
        rintro e w1 ⟨rfl, rfl⟩
        go_wp2_with fail
        go_region_held3 (fun W' => True) (trivial) (first
          | (go_at_call 41; go_must (refine (HSG.out _).mono ?_; rintro e wq ⟨rfl, rfl⟩))
          | fail)
        all_goals
          go_wp2_with fail
          go_quiet (fail)
          go_wp2
          go_ret2
          exact ⟨by rw [extract_tail]; rfl, by first | exact below_drewN (below_drewN HBW.out _) _ | exact below_drewN (below_drewN (below_drewN HBW.out _) _) _⟩
    · have hr : R = none := by rw [← E.out]; rfl
      subst hr
      clear E
      go_wp2
      go_ret2
      exact ⟨rfl, below_drewN HBW.out n⟩
end
end Go.Proofs.YtinjdlplbficiaaGreatDoor
