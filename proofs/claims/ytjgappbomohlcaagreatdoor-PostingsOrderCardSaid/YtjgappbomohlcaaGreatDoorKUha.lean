/-
  Numbers sorted by a heap.
-/
import Derived.Sort.LotB
import Derived.Test.YtjgappbomohlcaaGreatDoorK01
namespace Go.Proofs.YtjgappbomohlcaaGreatDoor
section
set_option linter.unusedVariables false
set_option linter.unusedSimpArgs false
open Go.RowKit Go.Sort
section
variable {hi first root : Nat} {d : Array Nat}
theorem sift_end (h : hi ≤ 2 * root + 1) : siftDown ltN hi first root d = d := by rw [siftDown, dif_pos h]
theorem sift_one (h : 2 * root + 1 < hi) (hc : (decide (2 * root + 1 + 1 < hi) && ltN d[first + (2 * root + 1)]! d[first + (2 * root + 1) + 1]!) = false) :
    siftDown ltN hi first root d = if ltN d[first + root]! d[first + (2 * root + 1)]! = true then siftDown ltN hi first (2 * root + 1) (swp d (first + root) (first + (2 * root + 1))) else d := by
  rw [siftDown, dif_neg (by omega), hc, if_neg (by simp)]
  cases ltN d[first + root]! d[first + (2 * root + 1)]! <;> simp
theorem sift_two (h : 2 * root + 1 + 1 < hi) (hc : ltN d[first + (2 * root + 1)]! d[first + (2 * root + 1) + 1]! = true) :
    siftDown ltN hi first root d = if ltN d[first + root]! d[first + (2 * root + 2)]! = true then siftDown ltN hi first (2 * root + 2) (swp d (first + root) (first + (2 * root + 2))) else d := by
  rw [siftDown, dif_neg (by omega), hc, if_pos (by simp; omega)]
  cases ltN d[first + root]! d[first + (2 * root + 2)]! <;> simp <;> omega
end
theorem sift_size (hi first : Nat) : ∀ (root : Nat) (d : Array Nat), (siftDown ltN hi first root d).size = d.size := by
  intro root d
  have : ∀ (k root : Nat) (d : Array Nat), hi - root ≤ k → (siftDown ltN hi first root d).size = d.size := by
    intro k
    induction k with
    | zero => intro root d hk; rw [sift_end (by omega)]
    | succ k ih =>
      intro root d hk
      rw [siftDown]
      split
      · rfl
      · split
        · split
          · rfl
          · split
            · rw [ih _ _ (by omega), size_swpN]
            · rfl
        · split
          · rfl
          · rw [ih _ _ (by omega), size_swpN]
  exact this _ root d (Nat.le_refl _)
section
set_option maxHeartbeats 3200000
set_option maxRecDepth 100000
theorem sift_any (b c lo hi first : Nat) (tl : List Value) (d : Array Nat) (w : World) (h : UR w b tl d) (hb : first + hi ≤ d.size) (hz : d.size ≤ 1000000) (hl : lo ≤ d.size) :
    Calls Tryz.prog 163 #[.slice (some ⟨b, 0, none⟩) d.size c, .int .i64 (lo : Nat), .int .i64 (hi : Nat), .int .i64 (first : Nat)] w fun e w' => e = .returned (.tuple #[]) ∧ SO w b tl (siftDown ltN hi first lo d) w' := by
  obtain ⟨n, hn⟩ : ∃ n, n = d.size := ⟨_, rfl⟩
  rw [← hn] at hb hz hl ⊢
  have H := Lib.hid h; clear h
  have HN := Lib.hid hn; clear hn
  obtain ⟨R, hR⟩ : ∃ R, R = siftDown ltN hi first lo d := ⟨_, rfl⟩
  rw [← hR]
  have HR := Lib.hid hR; clear hR
  have HL := Lib.hid (fun x y W => less_any x y W)
  go_enter Tryz.func163, Tryz.ntmps163
  go_wp2
  go_loopw [8] (fun s8 wr => ∃ (root : Nat) (dk : Array Nat), s8 = .int .i64 root ∧ root ≤ n ∧ dk.size = n ∧ Aside (SO w b tl dk wr) ∧ Aside (siftDown ltN hi first root dk = R)) (fun s8 _ => n - (intOf s8).toNat)
  case atStart => exact ⟨lo, d, rfl, hl, HN.out.symm, SO.refl H.out, HR.out.symm⟩
  case round =>
    obtain ⟨root, dk, rfl, hro, hds, S0, E⟩ := hrel
    have hfrz := S0.out.1.free
    have hwr : ∀ k : Nat, k ≤ 4000000 → IntKind.i64.wrap (k : Int) = (k : Int) := fun k hk => IntWalk.i64_in _ (by omega)
    obtain ⟨ch, hch⟩ : ∃ ch, ch = 2 * root + 1 := ⟨_, rfl⟩
    have q1 : 2 * (root : Int) = ((2 * root : Nat) : Int) := by omega
    have q2 : ((2 * root : Nat) : Int) + 1 = (ch : Int) := by omega
    by_cases hc : hi ≤ ch
    · have k1 : (hi : Int) ≤ (ch : Int) := by omega
      have hE := E.out
      rw [sift_end (by omega)] at hE
      subst hE
      have HS := Lib.hid S0.out
      clear hch
      generalize 2 * root = rr at q1 q2
      go_wp2
      go_end0
      exact ⟨rfl, HS.out⟩
    · have k1 : ¬ (hi : Int) ≤ (ch : Int) := by omega
      have r1 := S0.out.1.at (i := first + root) (by omega)
      have r2 := S0.out.1.at (i := first + ch) (by omega)
      have q3 : (first : Int) + (root : Int) = ((first + root : Nat) : Int) := by omega
      have q4 : (first : Int) + (ch : Int) = ((first + ch : Nat) : Int) := by omega
      have q5 : (ch : Int) + 1 = ((ch + 1 : Nat) : Int) := by omega
      have q6 : (first : Int) + ((ch + 1 : Nat) : Int) = ((first + ch + 1 : Nat) : Int) := by omega
      have q7 : ((first + ch : Nat) : Int) + 1 = ((first + ch + 1 : Nat) : Int) := by omega
      have b1 : ((first + root : Nat) : Int) < (n : Int) := by omega
      have b2 : ((first + ch : Nat) : Int) < (n : Int) := by omega
      have z1 : (0 : Int) ≤ ((first + root : Nat) : Int) := by omega
      have z2 : (0 : Int) ≤ ((first + ch : Nat) : Int) := by omega
      have z3 : (0 : Int) ≤ ((first + ch + 1 : Nat) : Int) := by omega
      by_cases h2 : ch + 1 < hi
      · have k2 : ((ch + 1 : Nat) : Int) < (hi : Int) := by omega
        have b3 : ((first + ch + 1 : Nat) : Int) < (n : Int) := by omega
        have r3 := S0.out.1.at (i := first + ch + 1) (by omega)
        cases t : ltN dk[first + ch]! dk[first + ch + 1]! with
        | false =>
          have hE : (if ltN dk[first + root]! dk[first + ch]! = true then siftDown ltN hi first ch (swp dk (first + root) (first + ch)) else dk) = R := by
            have hE := E.out
            rw [sift_one (by omega) (by rw [← hch, t, Bool.and_false]), ← hch] at hE
            exact hE
          have hsw := S0.out.swp (i := first + root) (j := first + ch)
          obtain ⟨x, hx⟩ : ∃ x, x = dk[first + root]! := ⟨_, rfl⟩
          obtain ⟨y, hy⟩ : ∃ y, y = dk[first + ch]! := ⟨_, rfl⟩
          obtain ⟨z, hzz⟩ : ∃ z, z = dk[first + ch + 1]! := ⟨_, rfl⟩
          rw [← hy, ← hzz] at t
          have hL1 := HL.out y z
          rw [t] at hL1
          rw [← hzz] at r3
          have HZ := Lib.hid hzz
          have HL1 := Lib.hid hL1; clear hL1
          rw [← hx] at r1 hE hsw
          rw [← hy] at r2
          rw [← hy] at hE hsw
          clear hx hy hzz t
          obtain ⟨u, hu⟩ : ∃ u, u = ltN x y := ⟨_, rfl⟩
          have hL2 := HL.out x y
          rw [← hu] at hE hL2
          have HU := Lib.hid hu; have HL2 := Lib.hid hL2
          have HCH := Lib.hid hch
          clear hu hL2 E hch
          obtain ⟨a1, ha1⟩ : ∃ a1, a1 = first + root := ⟨_, rfl⟩
          obtain ⟨a2, ha2⟩ : ∃ a2, a2 = first + ch := ⟨_, rfl⟩
          obtain ⟨a3, ha3⟩ : ∃ a3, a3 = first + ch + 1 := ⟨_, rfl⟩
          obtain ⟨ch1, hch1⟩ : ∃ ch1, ch1 = ch + 1 := ⟨_, rfl⟩
          obtain ⟨rr, hrr⟩ : ∃ rr, rr = 2 * root := ⟨_, rfl⟩
          rw [← ha3] at q6 q7 z3 r3 b3
          rw [← ha1] at r1 q3 b1 z1 hE hsw
          rw [← ha2] at hE hsw
          rw [← ha2] at r2 q4 b2 z2 q7
          rw [← hch1] at q5 q6 k2
          rw [← hrr] at q1 q2
          have HE := Lib.hid hE; have HSW := Lib.hid hsw; clear hE hsw
          have v1 := hwr a1 (by omega); have v2 := hwr a2 (by omega); have v3 := hwr a3 (by omega); have v4 := hwr ch (by omega); have v5 := hwr ch1 (by omega); have v6 := hwr rr (by omega)
          have HA1 := Lib.hid ha1; have HA2 := Lib.hid ha2; have HA3 := Lib.hid ha3; have HC1 := Lib.hid hch1; have HRR := Lib.hid hrr
          clear ha1 ha2 ha3 hch1 hrr
          cases u with
          | false =>
            go_wp2_with fail
            go_quiet (first | ((go_at_call 148; with_reducible exact Calls.quiet_of_same (HL1.out _))))
            go_wp2
            go_quiet (first | ((go_at_call 148; with_reducible exact (HL2.out _).mono fun _ _ h => ⟨h.1, _, h.2⟩)))
            go_wp2
            refine bodyPost_ret (results_none rfl _ _ _) rfl ?_
            have hR := HE.out
            rw [if_neg (by simp)] at hR
            subst hR
            exact ⟨rfl, by first | exact S0.out.drewN _ | exact (S0.out.drewN _).drewN _⟩

          | true =>
            go_wp2_with fail
            go_quiet (first | ((go_at_call 148; with_reducible exact Calls.quiet_of_same (HL1.out _))))
            go_wp2
            go_quiet (first | ((go_at_call 148; with_reducible exact (HL2.out _).mono fun _ _ h => ⟨h.1, _, h.2⟩)))
            go_wp2
            go_region
            go_wp2
            go_roundw
            case rel => exact ⟨ch, swp dk a1 a2, by go_num, by have := HCH.out; have := HC1.out; omega, by rw [size_swpN]; exact hds, (show Aside _ from HSW.out _ (by have := HA1.out; omega) (by have := HA2.out; omega)), (show Aside _ from (show _ = R from by simpa using HE.out))⟩
            case measure => simp [intOf]; have := HCH.out; have := HC1.out; omega

        | true =>
          have hE : (if ltN dk[first + root]! dk[first + ch + 1]! = true then siftDown ltN hi first (ch + 1) (swp dk (first + root) (first + ch + 1)) else dk) = R := by
            have hE := E.out
            rw [sift_two (by omega) (by rw [← hch]; exact t)] at hE
            rw [show first + ch + 1 = first + (2 * root + 2) by omega, show ch + 1 = 2 * root + 2 by omega]
            exact hE
          have hsw := S0.out.swp (i := first + root) (j := first + ch + 1)
          obtain ⟨x, hx⟩ : ∃ x, x = dk[first + root]! := ⟨_, rfl⟩
          obtain ⟨y, hy⟩ : ∃ y, y = dk[first + ch]! := ⟨_, rfl⟩
          obtain ⟨z, hzz⟩ : ∃ z, z = dk[first + ch + 1]! := ⟨_, rfl⟩
          rw [← hy, ← hzz] at t
          have hL1 := HL.out y z
          rw [t] at hL1
          rw [← hzz] at r3
          have HZ := Lib.hid hzz
          have HL1 := Lib.hid hL1; clear hL1
          rw [← hx] at r1 hE hsw
          rw [← hy] at r2
          rw [← hzz] at hE hsw
          clear hx hy hzz t
          obtain ⟨u, hu⟩ : ∃ u, u = ltN x z := ⟨_, rfl⟩
          have hL2 := HL.out x z
          rw [← hu] at hE hL2
          have HU := Lib.hid hu; have HL2 := Lib.hid hL2
          have HCH := Lib.hid hch
          clear hu hL2 E hch
          obtain ⟨a1, ha1⟩ : ∃ a1, a1 = first + root := ⟨_, rfl⟩
          obtain ⟨a2, ha2⟩ : ∃ a2, a2 = first + ch := ⟨_, rfl⟩
          obtain ⟨a3, ha3⟩ : ∃ a3, a3 = first + ch + 1 := ⟨_, rfl⟩
          obtain ⟨ch1, hch1⟩ : ∃ ch1, ch1 = ch + 1 := ⟨_, rfl⟩
          obtain ⟨rr, hrr⟩ : ∃ rr, rr = 2 * root := ⟨_, rfl⟩
          rw [← ha3] at q6 q7 z3 r3 b3
          rw [← ha1] at r1 q3 b1 z1 hE hsw
          rw [← ha3] at hE hsw
          rw [← ha2] at r2 q4 b2 z2 q7
          rw [← hch1] at q5 q6 k2 hE
          rw [← hrr] at q1 q2
          have HE := Lib.hid hE; have HSW := Lib.hid hsw; clear hE hsw
          have v1 := hwr a1 (by omega); have v2 := hwr a2 (by omega); have v3 := hwr a3 (by omega); have v4 := hwr ch (by omega); have v5 := hwr ch1 (by omega); have v6 := hwr rr (by omega)
          have HA1 := Lib.hid ha1; have HA2 := Lib.hid ha2; have HA3 := Lib.hid ha3; have HC1 := Lib.hid hch1; have HRR := Lib.hid hrr
          clear ha1 ha2 ha3 hch1 hrr
          cases u with
          | false =>
            go_wp2_with fail
            go_quiet (first | ((go_at_call 148; with_reducible exact Calls.quiet_of_same (HL1.out _))))
            go_wp2
            go_quiet (first | ((go_at_call 148; with_reducible exact (HL2.out _).mono fun _ _ h => ⟨h.1, _, h.2⟩)))
            go_wp2
            refine bodyPost_ret (results_none rfl _ _ _) rfl ?_
            have hR := HE.out
            rw [if_neg (by simp)] at hR
            subst hR
            exact ⟨rfl, by first | exact S0.out.drewN _ | exact (S0.out.drewN _).drewN _⟩

          | true =>
            go_wp2_with fail
            go_quiet (first | ((go_at_call 148; with_reducible exact Calls.quiet_of_same (HL1.out _))))
            go_wp2
            go_quiet (first | ((go_at_call 148; with_reducible exact (HL2.out _).mono fun _ _ h => ⟨h.1, _, h.2⟩)))
            go_wp2
            go_region
            go_wp2
            go_roundw
            case rel => exact ⟨ch1, swp dk a1 a3, by go_num, by have := HCH.out; have := HC1.out; omega, by rw [size_swpN]; exact hds, (show Aside _ from HSW.out _ (by have := HA1.out; omega) (by have := HA3.out; omega)), (show Aside _ from (show _ = R from by simpa using HE.out))⟩
            case measure => simp [intOf]; have := HCH.out; have := HC1.out; omega

      · have k2 : ¬ ((ch + 1 : Nat) : Int) < (hi : Int) := by omega
        have k3 : decide (ch + 1 < hi) = false := decide_eq_false h2
        have hE : (if ltN dk[first + root]! dk[first + ch]! = true then siftDown ltN hi first ch (swp dk (first + root) (first + ch)) else dk) = R := by
          have hE := E.out
          rw [sift_one (by omega) (by rw [← hch, decide_eq_false h2, Bool.false_and]), ← hch] at hE
          exact hE
        have hsw := S0.out.swp (i := first + root) (j := first + ch)
        obtain ⟨x, hx⟩ : ∃ x, x = dk[first + root]! := ⟨_, rfl⟩
        obtain ⟨y, hy⟩ : ∃ y, y = dk[first + ch]! := ⟨_, rfl⟩
        rw [← hx] at r1 hE hsw
        rw [← hy] at r2
        rw [← hy] at hE hsw
        clear hx hy
        obtain ⟨u, hu⟩ : ∃ u, u = ltN x y := ⟨_, rfl⟩
        have hL2 := HL.out x y
        rw [← hu] at hE hL2
        have HU := Lib.hid hu; have HL2 := Lib.hid hL2
        have HCH := Lib.hid hch
        clear hu hL2 E hch
        obtain ⟨a1, ha1⟩ : ∃ a1, a1 = first + root := ⟨_, rfl⟩
        obtain ⟨a2, ha2⟩ : ∃ a2, a2 = first + ch := ⟨_, rfl⟩
        obtain ⟨a3, ha3⟩ : ∃ a3, a3 = first + ch + 1 := ⟨_, rfl⟩
        obtain ⟨ch1, hch1⟩ : ∃ ch1, ch1 = ch + 1 := ⟨_, rfl⟩
        obtain ⟨rr, hrr⟩ : ∃ rr, rr = 2 * root := ⟨_, rfl⟩
        rw [← ha3] at q6 q7 z3
        rw [← ha1] at r1 q3 b1 z1 hE hsw
        rw [← ha2] at hE hsw
        rw [← ha2] at r2 q4 b2 z2 q7
        rw [← hch1] at q5 q6 k2 k3
        rw [← hrr] at q1 q2
        have HE := Lib.hid hE; have HSW := Lib.hid hsw; clear hE hsw
        have v1 := hwr a1 (by omega); have v2 := hwr a2 (by omega); have v3 := hwr a3 (by omega); have v4 := hwr ch (by omega); have v5 := hwr ch1 (by omega); have v6 := hwr rr (by omega)
        have HA1 := Lib.hid ha1; have HA2 := Lib.hid ha2; have HA3 := Lib.hid ha3; have HC1 := Lib.hid hch1; have HRR := Lib.hid hrr
        clear ha1 ha2 ha3 hch1 hrr
        cases u with
        | false =>
          go_wp2_with fail
          go_quiet (fail)
          go_wp2
          go_quiet (first | ((go_at_call 148; with_reducible exact (HL2.out _).mono fun _ _ h => ⟨h.1, _, h.2⟩)))
          go_wp2
          refine bodyPost_ret (results_none rfl _ _ _) rfl ?_
          have hR := HE.out
          rw [if_neg (by simp)] at hR
          subst hR
          exact ⟨rfl, by first | exact S0.out.drewN _ | exact (S0.out.drewN _).drewN _⟩

        | true =>
          go_wp2_with fail
          go_quiet (fail)
          go_wp2
          go_quiet (first | ((go_at_call 148; with_reducible exact (HL2.out _).mono fun _ _ h => ⟨h.1, _, h.2⟩)))
          go_wp2
          go_region
          go_wp2
          go_roundw
          case rel => exact ⟨ch, swp dk a1 a2, by go_num, by have := HCH.out; have := HC1.out; omega, by rw [size_swpN]; exact hds, (show Aside _ from HSW.out _ (by have := HA1.out; omega) (by have := HA2.out; omega)), (show Aside _ from (show _ = R from by simpa using HE.out))⟩
          case measure => simp [intOf]; have := HCH.out; have := HC1.out; omega

theorem heap_any (b c lo hi : Nat) (tl : List Value) (d : Array Nat) (w : World) (h : UR w b tl d) (hb : hi ≤ d.size) (hz : d.size ≤ 1000000) (hl : lo ≤ hi) :
    Calls Tryz.prog 143 #[.slice (some ⟨b, 0, none⟩) d.size c, .int .i64 (lo : Nat), .int .i64 (hi : Nat)] w fun e w' => e = .returned (.tuple #[]) ∧ SO w b tl (heapSort ltN d lo hi) w' := by
  obtain ⟨n, hn⟩ : ∃ n, n = d.size := ⟨_, rfl⟩
  rw [← hn] at hb hz ⊢
  have H := Lib.hid h; clear h
  have HB := Lib.hid hb
  have HN := Lib.hid hn; clear hn
  obtain ⟨m, hm⟩ : ∃ m, m = hi - lo := ⟨_, rfl⟩
  have qm : (hi : Int) - (lo : Int) = (m : Int) := by omega
  obtain ⟨R, hR⟩ : ∃ R, R = heapSort ltN d lo hi := ⟨_, rfl⟩
  rw [← hR]
  unfold heapSort at hR
  rw [← hm] at hR
  have HR := Lib.hid hR; clear hR
  have hS := fun (l h : Nat) (dk : Array Nat) (W : World) (hd : dk.size = n) (hu : UR W b tl dk) (h1 : lo + h ≤ n) (h2 : l ≤ n) => show Calls Tryz.prog 163 #[.slice (some ⟨b, 0, none⟩) n c, .int .i64 (l : Nat), .int .i64 (h : Nat), .int .i64 (lo : Nat)] W fun e w' => e = .returned (.tuple #[]) ∧ SO W b tl (siftDown ltN h lo l dk) w' from by
    subst hd; exact sift_any b c l h lo tl dk W hu h1 hz h2
  have HS := Lib.hid hS
  have HS0 := Lib.hid (fun (h : Nat) (dk : Array Nat) (W : World) (hd : dk.size = n) (hu : UR W b tl dk) (h1 : lo + h ≤ n) => show Calls Tryz.prog 163 #[.slice (some ⟨b, 0, none⟩) n c, .int .i64 0, .int .i64 (h : Nat), .int .i64 (lo : Nat)] W fun e w' => e = .returned (.tuple #[]) ∧ SO W b tl (siftDown ltN h lo 0 dk) w' from hS 0 h dk W hd hu h1 (Nat.zero_le _))
  clear hS
  have qd : ((m : Int) - 1).tdiv 2 = (((m - 1) / 2 : Nat) : Int) := by
    by_cases h0 : m = 0
    · subst h0; rfl
    · rw [show (m : Int) - 1 = ((m - 1 : Nat) : Int) by omega]; rfl
  have qb := HB.out
  have hmn : lo + m ≤ n := by omega
  clear hm
  go_enter Tryz.func143, Tryz.ntmps143
  go_wp2
  go_loopw [9] (fun s9 wr => ∃ (k : Nat) (dk : Array Nat), s9 = .int .i64 ((k : Int) - 1) ∧ k ≤ n + 1 ∧ (k = 0 ∨ k ≤ m / 2 + 1) ∧ dk.size = n ∧ Aside (SO w b tl dk wr) ∧ Aside (heapPop ltN lo m (heapBuild ltN m lo k dk) = R)) (fun s9 _ => (intOf s9 + 1).toNat)
  case atStart => exact ⟨(m - 1) / 2 + 1, d, by rw [show ((((m - 1) / 2 + 1 : Nat) : Int) - 1) = (((m - 1) / 2 : Nat) : Int) by omega]; congr 1, by omega, by omega, HN.out.symm, SO.refl H.out, HR.out.symm⟩
  case round =>
    obtain ⟨k, dk, rfl, hk1, hk2, hds, S0, E⟩ := hrel
    cases k with
    | succ k =>
      have q1 : (((k + 1 : Nat) : Int) - 1) = (k : Int) := by omega
      have z1 : (0 : Int) ≤ (k : Int) := by omega
      have hE := E.out
      rw [heapBuild] at hE
      have HC := Lib.hid (HS.out k m dk wr hds S0.out.1 (by omega) (by omega))
      have HE := Lib.hid hE; clear hE E
      rw [q1]
      go_wp2_with (first
        | (go_at_call 163; go_must (refine HC.out.mono ?_; rintro e w2 ⟨rfl, hs2⟩; have HS2 := Lib.hid (S0.out.trans hs2); clear hs2))
        | fail)
      go_roundw
      case rel => exact ⟨k, siftDown ltN m lo k dk, by go_num, by omega, by omega, by rw [sift_size]; exact hds, (show Aside _ from HS2.out), (show Aside _ from HE.out)⟩
      case measure => simp [intOf]
    | zero =>
      have q1 : (((0 : Nat) : Int) - 1) = (-1 : Int) := by omega
      rw [q1]
      have hE := E.out
      rw [heapBuild] at hE
      have HE := Lib.hid hE; clear hE E
      obtain ⟨w9, h9⟩ : ∃ w9, w9 = wr := ⟨_, rfl⟩
      rw [← h9] at S0 ⊢
      clear h9
      go_wp2
      go_loopw [10] (fun s10 wq => ∃ (k : Nat) (dj : Array Nat), s10 = .int .i64 ((k : Int) - 1) ∧ k ≤ m ∧ dj.size = n ∧ Aside (SO w b tl dj wq) ∧ Aside (heapPop ltN lo k dj = R)) (fun s10 _ => (intOf s10 + 1).toNat)
      case atStart => exact ⟨m, dk, rfl, by omega, hds, S0.out, HE.out⟩
      case round =>
        obtain ⟨k, dj, rfl, hk, hjs, SJ, EJ⟩ := hrel
        cases k with
        | succ k =>
          have q1 : (((k + 1 : Nat) : Int) - 1) = (k : Int) := by omega
          rw [q1]
          have z1 : (0 : Int) ≤ (k : Int) := by omega
          have hfrz := SJ.out.1.free
          have r1 := SJ.out.1.at (i := lo) (by omega)
          have r2 := SJ.out.1.at (i := lo + k) (by omega)
          have hE := EJ.out
          rw [heapPop] at hE
          have hsw := SJ.out.swp (i := lo) (j := lo + k)
          have q3 : (lo : Int) + (k : Int) = ((lo + k : Nat) : Int) := by omega
          have b1 : (lo : Int) < (n : Int) := by omega
          have b2 : ((lo + k : Nat) : Int) < (n : Int) := by omega
          have z2 : (0 : Int) ≤ ((lo + k : Nat) : Int) := by omega
          obtain ⟨x, hx⟩ : ∃ x, x = dj[lo]! := ⟨_, rfl⟩
          obtain ⟨y, hy⟩ : ∃ y, y = dj[lo + k]! := ⟨_, rfl⟩
          rw [← hx] at r1 hsw
          rw [← hy] at r2 hsw
          clear hx hy
          obtain ⟨a2, ha2⟩ : ∃ a2, a2 = lo + k := ⟨_, rfl⟩
          rw [← ha2] at r2 q3 b2 z2 hE hsw
          have v2 : IntKind.i64.wrap (a2 : Int) = (a2 : Int) := IntWalk.i64_in _ (by omega)
          have HA := Lib.hid ha2; have HE2 := Lib.hid hE; have HSW := Lib.hid hsw
          have HC := Lib.hid (fun W hu => HS0.out k (swp dj lo a2) W (by rw [size_swpN]; exact hjs) hu (by omega))
          clear ha2 hE hsw EJ HE
          by_cases hka : a2 = lo
          · subst hka
            rw [r1] at r2
            injection r2 with r2; injection r2 with _ r2
            obtain rfl : x = y := by omega
            go_wp2_with fail
            go_region
            go_wp2_with (first
              | (go_at_call 163; go_must (refine (HC.out _ (HSW.out _ (by omega) (by have := HA.out; omega)).1).mono ?_; rintro e w2 ⟨rfl, hs2⟩; have HS2 := Lib.hid ((HSW.out _ (by omega) (by have := HA.out; omega)).trans hs2); clear hs2))
              | fail)
            go_roundw
            case rel => exact ⟨k, siftDown ltN k a2 0 (swp dj a2 a2), by go_num, by omega, by rw [sift_size, size_swpN]; exact hjs, (show Aside _ from HS2.out), (show Aside _ from HE2.out)⟩
            case measure => simp [intOf]
          · have hk1 : ¬ lo = a2 := fun e => hka e.symm
            have hk3 : ¬ (a2 : Int) = (lo : Int) := by omega
            have hk4 : ¬ (lo : Int) = (a2 : Int) := by omega
            go_wp2_with fail
            go_region
            go_wp2_with (first
              | (go_at_call 163; go_must (refine (HC.out _ (HSW.out _ (by omega) (by have := HA.out; omega)).1).mono ?_; rintro e w2 ⟨rfl, hs2⟩; have HS2 := Lib.hid ((HSW.out _ (by omega) (by have := HA.out; omega)).trans hs2); clear hs2))
              | fail)
            go_roundw
            case rel => exact ⟨k, siftDown ltN k lo 0 (swp dj lo a2), by go_num, by omega, by rw [sift_size, size_swpN]; exact hjs, (show Aside _ from HS2.out), (show Aside _ from HE2.out)⟩
            case measure => simp [intOf]
        | zero =>
          have q1 : (((0 : Nat) : Int) - 1) = (-1 : Int) := by omega
          rw [q1]
          have hE := EJ.out
          rw [heapPop] at hE
          subst hE
          have HS2 := Lib.hid SJ.out
          go_wp2
          go_end0
          exact ⟨rfl, HS2.out⟩
end
end
end Go.Proofs.YtjgappbomohlcaaGreatDoor
