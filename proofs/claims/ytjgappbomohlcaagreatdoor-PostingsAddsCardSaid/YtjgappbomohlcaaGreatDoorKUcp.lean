/-
  Which of the numbers parts the others: one of them. A stretch of numbers turned round.
-/
import Derived.Sort.LotB
import Derived.Test.YtjgappbomohlcaaGreatDoorK01
namespace Go.Proofs.YtjgappbomohlcaaGreatDoor
section
set_option linter.unusedVariables false
set_option linter.unusedSimpArgs false
open Go.RowKit Go.Sort
/-- A box with a number. -/
def BoxI (w : World) (sb : Nat) : Prop := ∃ s : Int, w.heap[sb]? = some (.cells #[.int .i64 s] 3 (0, 0))
theorem BoxI.ne {w : World} {sb b : Nat} {tl : List Value} {d : Array Nat} (h : BoxI w sb) (hu : UR w b tl d) : b ≠ sb := by
  obtain ⟨s, hs⟩ := h
  exact ne_blk hu hs (by decide)
section
set_option maxHeartbeats 3200000
set_option maxRecDepth 100000
theorem ord2_any (b c sb x y n : Nat) (tl : List Value) (d : Array Nat) (w : World) (h : UR w b tl d) (hn : n = d.size) (hx : x < n) (hy : y < n) (hz : n ≤ 1000000) (hs : BoxI w sb) :
    Calls Tryz.prog 176 #[.slice (some ⟨b, 0, none⟩) n c, .int .i64 (x : Nat), .int .i64 (y : Nat), .pointer (some ⟨sb, 0, none⟩)] w fun e w' =>
      ∃ x' y' : Nat, e = .returned (.tuple #[.int .i64 (x' : Nat), .int .i64 (y' : Nat)]) ∧ ((x' = x ∧ y' = y) ∨ (x' = y ∧ y' = x)) ∧ BoxI w' sb ∧ Mv (fun k => k = sb) w w' := by
  have r1 := h.at (i := x) (by omega)
  have r2 := h.at (i := y) (by omega)
  obtain ⟨s, hs⟩ := hs
  have s0 := cell_blk hs 0
  have f0 := free_blk hs 0
  simp only [List.getElem?_toArray, List.getElem?_cons_zero] at s0
  have HS := Lib.hid hs; clear hs h
  have hLL := less_any d[y]! d[x]!
  obtain ⟨x1, hx1⟩ : ∃ x1, x1 = d[x]! := ⟨_, rfl⟩
  obtain ⟨y1, hy1⟩ : ∃ y1, y1 = d[y]! := ⟨_, rfl⟩
  rw [← hx1] at r1 hLL
  rw [← hy1] at r2 hLL
  clear hx1 hy1 hn
  obtain ⟨t, ht⟩ : ∃ t, t = ltN y1 x1 := ⟨_, rfl⟩
  rw [← ht] at hLL
  have HLL := Lib.hid hLL; clear hLL ht
  have b1 : (x : Int) < (n : Int) := by omega
  have b2 : (y : Int) < (n : Int) := by omega
  have z1 : (0 : Int) ≤ (x : Int) := by omega
  have z2 : (0 : Int) ≤ (y : Int) := by omega
  cases t with
  | false =>
    go_enter Tryz.func176, Tryz.ntmps176
    go_wp2_with fail
    go_quiet (first | ((go_at_call 148; with_reducible exact Calls.quiet_of_same (HLL.out _))))
    go_wp2
    go_ret2
    exact ⟨x, y, rfl, .inl ⟨rfl, rfl⟩, ⟨s, HS.out⟩, (Mv.refl _ w).drewN _⟩
  | true =>
    go_enter Tryz.func176, Tryz.ntmps176
    go_wp2_with fail
    go_quiet (first | ((go_at_call 148; with_reducible exact Calls.quiet_of_same (HLL.out _))))
    go_wp2
    first | go_region | skip
    go_wp2
    go_ret2
    refine ⟨y, x, rfl, .inr ⟨rfl, rfl⟩, ?_, ?_⟩
    · exact ⟨_, set_blk (w := w.drewN _) HS.out 0 _⟩
    · exact Mv.setCell (S := fun k => k = sb) (p := ⟨sb, 0, none⟩) ((Mv.refl (fun k => k = sb) w).drewN _) (fun _ => rfl) _
theorem med_any (b c sb x y z n : Nat) (tl : List Value) (d : Array Nat) (w : World) (h : UR w b tl d) (hn : n = d.size) (hx : x < n) (hy : y < n) (hzn : z < n) (hz : n ≤ 1000000) (hs : BoxI w sb) :
    Calls Tryz.prog 165 #[.slice (some ⟨b, 0, none⟩) n c, .int .i64 (x : Nat), .int .i64 (y : Nat), .int .i64 (z : Nat), .pointer (some ⟨sb, 0, none⟩)] w fun e w' =>
      ∃ m : Nat, e = .returned (.int .i64 (m : Nat)) ∧ (m = x ∨ m = y ∨ m = z) ∧ BoxI w' sb ∧ Mv (fun k => k = sb) w w' := by
  have hne := hs.ne h
  have HO := Lib.hid (fun (x y : Nat) (W : World) (hm : Mv (fun k => k = sb) w W) (hx : x < n) (hy : y < n) (hs : BoxI W sb) => ord2_any b c sb x y n tl d W (h.moved (hm.block b (blk_lt h) hne)) hn hx hy hz hs)
  have H0 := Lib.hid (Mv.refl (fun k => k = sb) w)
  have HS := Lib.hid hs
  clear hn hs h
  go_enter Tryz.func165, Tryz.ntmps165
  go_wp2_with fail
  refine (HO.out x y w H0.out hx hy HS.out).mono ?_
  rintro e w1 ⟨x1, y1, rfl, hxy, hs1, hm1⟩
  have HM1 := Lib.hid hm1; have HS1 := Lib.hid hs1; clear hm1 hs1
  have hx1 : x1 < n := by omega
  have hy1 : y1 < n := by omega
  have HXY := Lib.hid hxy; clear hxy
  go_wp2_with fail
  refine (HO.out y1 z w1 HM1.out hy1 hzn HS1.out).mono ?_
  rintro e w2 ⟨x2, y2, rfl, hxy, hs1, hm1⟩
  have HM2 := Lib.hid (HM1.out.trans hm1 fun _ _ e => e); have HS2 := Lib.hid hs1; clear hm1 hs1
  have hx2 : x2 < n := by omega
  have hy2 : y2 < n := by omega
  have HXY2 := Lib.hid hxy; clear hxy
  go_wp2_with fail
  refine (HO.out x1 x2 w2 HM2.out hx1 hx2 HS2.out).mono ?_
  rintro e w3 ⟨x3, y3, rfl, hxy, hs1, hm1⟩
  have HM3 := Lib.hid (HM2.out.trans hm1 fun _ _ e => e); have HS3 := Lib.hid hs1; clear hm1 hs1
  have HXY3 := Lib.hid hxy; clear hxy
  go_wp2
  go_ret
  exact ⟨y3, rfl, by have := HXY.out; have := HXY2.out; have := HXY3.out; omega, HS3.out, HM3.out⟩
theorem medadj_any (b c sb x n : Nat) (tl : List Value) (d : Array Nat) (w : World) (h : UR w b tl d) (hn : n = d.size) (h1 : 1 ≤ x) (hx : x + 1 < n) (hz : n ≤ 1000000) (hs : BoxI w sb) :
    Calls Tryz.prog 164 #[.slice (some ⟨b, 0, none⟩) n c, .int .i64 (x : Nat), .pointer (some ⟨sb, 0, none⟩)] w fun e w' =>
      ∃ m : Nat, e = .returned (.int .i64 (m : Nat)) ∧ (m = x - 1 ∨ m = x ∨ m = x + 1) ∧ BoxI w' sb ∧ Mv (fun k => k = sb) w w' := by
  have HM := Lib.hid (med_any b c sb (x - 1) x (x + 1) n tl d w h hn (by omega) (by omega) hx hz hs)
  clear hn h hs
  have q1 : (x : Int) - 1 = ((x - 1 : Nat) : Int) := by omega
  have q2 : (x : Int) + 1 = ((x + 1 : Nat) : Int) := by omega
  obtain ⟨xm, hxm⟩ : ∃ xm, xm = x - 1 := ⟨_, rfl⟩
  obtain ⟨xp, hxp⟩ : ∃ xp, xp = x + 1 := ⟨_, rfl⟩
  rw [← hxm] at HM q1 ⊢
  rw [← hxp] at HM q2 ⊢
  have H1 := Lib.hid hxm; have H2 := Lib.hid hxp
  clear hxm hxp
  go_enter Tryz.func164, Tryz.ntmps164
  go_wp2_with fail
  refine HM.out.mono ?_
  rintro e w1 ⟨m, rfl, hm, hs1, hm1⟩
  have HM1 := Lib.hid hm1; have HS1 := Lib.hid hs1; have HMM := Lib.hid hm; clear hm1 hs1 hm
  go_wp2
  go_ret
  exact ⟨m, rfl, HMM.out, HS1.out, HM1.out⟩
/-- Which one parts, and how the numbers lie. -/
theorem choose_any (b c a hi n : Nat) (tl : List Value) (d : Array Nat) (w : World) (h : UR w b tl d) (hn : n = d.size) (hb : hi ≤ n) (hz : n ≤ 1000000) (hab : a < hi) :
    Calls Tryz.prog 145 #[.slice (some ⟨b, 0, none⟩) n c, .int .i64 (a : Nat), .int .i64 (hi : Nat)] w fun e w' =>
      ∃ (m : Nat) (k : Int), e = .returned (.tuple #[.int .i64 (m : Nat), .int .i64 k]) ∧ a ≤ m ∧ m < hi ∧ Below w.heap.size w w' := by
  obtain ⟨l, hl⟩ : ∃ l, l = hi - a := ⟨_, rfl⟩
  obtain ⟨p1, hp1⟩ : ∃ p1, p1 = a + l / 4 := ⟨_, rfl⟩
  obtain ⟨p2, hp2⟩ : ∃ p2, p2 = a + l / 4 * 2 := ⟨_, rfl⟩
  obtain ⟨p3, hp3⟩ : ∃ p3, p3 = a + l / 4 * 3 := ⟨_, rfl⟩
  obtain ⟨q, hq⟩ : ∃ q, q = l / 4 := ⟨_, rfl⟩
  have q0 : (hi : Int) - (a : Int) = (l : Int) := by omega
  have q1 : (l : Int).tdiv 4 = (q : Int) := by rw [hq]; rfl
  have q1' : (l : Int) / 4 = (q : Int) := by omega
  have q2 : (a : Int) + (q : Int) = (p1 : Int) := by omega
  have q3 : (a : Int) + (q : Int) * 2 = (p2 : Int) := by omega
  have q4 : (a : Int) + (q : Int) * 3 = (p3 : Int) := by omega
  have hb0 := (RowKit.Below.refl w.heap.size w).alloc (Nat.le_refl _) (.cells #[.int .i64 0] 3)
  have hur : UR (w.alloc (.cells #[.int .i64 0] 3)) b tl d := h.moved (hb0.block b (blk_lt h))
  have hbx : BoxI (w.alloc (.cells #[.int .i64 0] 3)) w.heap.size := ⟨0, heap_alloc_new w _⟩
  obtain ⟨W, hW⟩ : ∃ W, W = w.alloc (.cells #[.int .i64 0] 3) := ⟨_, rfl⟩
  rw [← hW] at hb0 hur hbx
  have hWs : w.heap.size < W.heap.size := by rw [hW, World.size_alloc]; omega
  have hne := hbx.ne hur
  have HB := Lib.hid (fun (W' : World) (hm : Mv (fun k => k = w.heap.size) W W') => show Below w.heap.size w W' from hb0.trans (hm.belowB (Nat.le_of_lt hWs) (fun k hk e => by omega)))
  have HA := Lib.hid (fun (x : Nat) (W' : World) (hm : Mv (fun k => k = w.heap.size) W W') (h1 : 1 ≤ x) (hx : x + 1 < n) (hs : BoxI W' w.heap.size) => medadj_any b c w.heap.size x n tl d W' (hur.moved (hm.block b (blk_lt hur) hne)) hn h1 hx hz hs)
  have HM := Lib.hid (fun (x y z : Nat) (W' : World) (hm : Mv (fun k => k = w.heap.size) W W') (hx : x < n) (hy : y < n) (hzz : z < n) (hs : BoxI W' w.heap.size) => med_any b c w.heap.size x y z n tl d W' (hur.moved (hm.block b (blk_lt hur) hne)) hn hx hy hzz hz hs)
  have H0 := Lib.hid (Mv.refl (fun k => k = w.heap.size) W)
  have HBX := Lib.hid hbx
  have HW := Lib.hid hW
  have g1 : a ≤ p1 ∧ p1 ≤ p2 ∧ p2 ≤ p3 ∧ p3 < hi := by omega
  have g2 : 50 ≤ l → a + 1 ≤ p1 ∧ p1 + 1 < p2 ∧ p2 + 1 < p3 ∧ p3 + 1 < hi := by omega
  have HP := Lib.hid hp1; have HP2 := Lib.hid hp2; have HP3 := Lib.hid hp3; have HQ := Lib.hid hq; have HLH := Lib.hid hl
  obtain ⟨g1a, g1b, g1c, g1d⟩ := g1
  clear hW hbx hb0 hur hne hn h hp1 hp2 hp3 hq hl
  have key : ∀ (m : Nat) (w3 : World), a ≤ m → m < hi → BoxI w3 w.heap.size → Mv (fun k => k = w.heap.size) W w3 → True := fun _ _ _ _ _ _ => trivial
  clear key
  by_cases h8 : 8 ≤ l
  · have k8 : (8 : Int) ≤ (l : Int) := by omega
    by_cases h50 : 50 ≤ l
    · have k50 : (50 : Int) ≤ (l : Int) := by omega
      obtain ⟨e1, e2, e3, e4⟩ := g2 h50
      go_enter Tryz.func145, Tryz.ntmps145
      go_wp2_with fail
      rw [← HW.out]
      refine (HA.out p1 W H0.out (by omega) (by omega) HBX.out).mono ?_
      rintro e w1 ⟨m1, rfl, hm1, hs1, hv1⟩
      have HV1 := Lib.hid hv1; have HS1 := Lib.hid hs1; have HE1 := Lib.hid hm1; clear hv1 hs1 hm1
      go_wp2_with fail
      refine (HA.out p2 w1 HV1.out (by omega) (by omega) HS1.out).mono ?_
      rintro e w2 ⟨m2, rfl, hm1, hs1, hv1⟩
      have HV2 := Lib.hid (HV1.out.trans hv1 fun _ _ e => e); have HS2 := Lib.hid hs1; have HE2 := Lib.hid hm1; clear hv1 hs1 hm1
      go_wp2_with fail
      refine (HA.out p3 w2 HV2.out (by omega) (by omega) HS2.out).mono ?_
      rintro e w3 ⟨m3, rfl, hm1, hs1, hv1⟩
      have HV3 := Lib.hid (HV2.out.trans hv1 fun _ _ e => e); have HS3 := Lib.hid hs1; have HE3 := Lib.hid hm1; clear hv1 hs1 hm1
      go_wp2_with fail
      refine (HM.out m1 m2 m3 w3 HV3.out (by have := HE1.out; omega) (by have := HE2.out; omega) (by have := HE3.out; omega) HS3.out).mono ?_
      rintro e w4 ⟨m4, rfl, hm1, hs1, hv1⟩
      have HV4 := Lib.hid (HV3.out.trans hv1 fun _ _ e => e)
      have hmm : a ≤ m4 ∧ m4 < hi := by have := HE1.out; have := HE2.out; have := HE3.out; omega
      have HMM := Lib.hid hmm
      obtain ⟨s, hs⟩ := hs1
      have s0 := cell_blk hs 0
      simp only [List.getElem?_toArray, List.getElem?_cons_zero] at s0
      clear hv1 hm1 hs hmm
      go_wp2
      all_goals go_ret2
      all_goals first | exact ⟨m4, _, rfl, HMM.out.1, HMM.out.2, HB.out _ HV4.out⟩ | exact ⟨m4, ⟨_, rfl⟩, HMM.out.1, HMM.out.2, HB.out _ HV4.out⟩
    · have k50 : ¬ (50 : Int) ≤ (l : Int) := by omega
      go_enter Tryz.func145, Tryz.ntmps145
      go_wp2_with fail
      rw [← HW.out]
      refine (HM.out p1 p2 p3 W H0.out (by omega) (by omega) (by omega) HBX.out).mono ?_
      rintro e w4 ⟨m4, rfl, hm1, hs1, hv1⟩
      have HV4 := Lib.hid hv1
      have hmm : a ≤ m4 ∧ m4 < hi := by omega
      have HMM := Lib.hid hmm
      obtain ⟨s, hs⟩ := hs1
      have s0 := cell_blk hs 0
      simp only [List.getElem?_toArray, List.getElem?_cons_zero] at s0
      clear hv1 hm1 hs hmm
      go_wp2
      all_goals go_ret2
      all_goals first | exact ⟨m4, _, rfl, HMM.out.1, HMM.out.2, HB.out _ HV4.out⟩ | exact ⟨m4, ⟨_, rfl⟩, HMM.out.1, HMM.out.2, HB.out _ HV4.out⟩
  · have k8 : ¬ (8 : Int) ≤ (l : Int) := by omega
    go_enter Tryz.func145, Tryz.ntmps145
    go_wp2
    all_goals go_ret2
    all_goals exact ⟨p2, ⟨_, rfl⟩, by omega, by omega, (RowKit.Below.refl w.heap.size w).alloc (Nat.le_refl _) _⟩
end
section
set_option maxHeartbeats 3200000
set_option maxRecDepth 100000
theorem rev_any (b c a hi : Nat) (tl : List Value) (d : Array Nat) (w : World) (h : UR w b tl d) (hb : hi ≤ d.size) (hz : d.size ≤ 1000000) (hab : a < hi) :
    Calls Tryz.prog 146 #[.slice (some ⟨b, 0, none⟩) d.size c, .int .i64 (a : Nat), .int .i64 (hi : Nat)] w fun e w' => e = .returned (.tuple #[]) ∧ SO w b tl (reverseRange d a hi) w' := by
  obtain ⟨n, hn⟩ : ∃ n, n = d.size := ⟨_, rfl⟩
  rw [← hn] at hb hz ⊢
  have H := Lib.hid h; clear h
  have HN := Lib.hid hn; clear hn
  obtain ⟨R, hR⟩ : ∃ R, R = reverseRange d a hi := ⟨_, rfl⟩
  rw [← hR]
  unfold reverseRange at hR
  have HR := Lib.hid hR; clear hR
  have q1 : (hi : Int) - 1 = ((hi - 1 : Nat) : Int) := by omega
  go_enter Tryz.func146, Tryz.ntmps146
  go_wp2
  go_loopw [6, 7] (fun s6 s7 wr => ∃ (i j : Nat) (dk : Array Nat), s6 = .int .i64 i ∧ s7 = .int .i64 j ∧ i ≤ n ∧ j < n ∧ dk.size = n ∧ Aside (SO w b tl dk wr) ∧ Aside (reverseLoop i j dk = R)) (fun s6 _ _ => n + 1 - (intOf s6).toNat)
  case atStart => exact ⟨a, hi - 1, d, by go_num, by go_num, by omega, by omega, HN.out.symm, SO.refl H.out, HR.out.symm⟩
  case round =>
    obtain ⟨i, j, dk, rfl, rfl, hi1, hj1, hds, S0, E⟩ := hrel
    have hE := E.out
    rw [reverseLoop] at hE
    by_cases hij : i < j
    · rw [if_pos hij] at hE
      have k1 : (i : Int) < (j : Int) := by omega
      have HE := Lib.hid hE; clear hE E
      have hfrz := S0.out.1.free
      have r1 := S0.out.1.at (i := i) (by omega)
      have r2 := S0.out.1.at (i := j) (by omega)
      have hsw := S0.out.swp (i := i) (j := j)
      have b1 : (i : Int) < (n : Int) := by omega
      have b2 : (j : Int) < (n : Int) := by omega
      have z1 : (0 : Int) ≤ (i : Int) := by omega
      have z2 : (0 : Int) ≤ (j : Int) := by omega
      have q2 : (j : Int) - 1 = ((j - 1 : Nat) : Int) := by omega
      obtain ⟨x, hx⟩ : ∃ x, x = dk[i]! := ⟨_, rfl⟩
      obtain ⟨y, hy⟩ : ∃ y, y = dk[j]! := ⟨_, rfl⟩
      rw [← hx] at r1 hsw
      rw [← hy] at r2 hsw
      have HSW := Lib.hid hsw; clear hsw hx hy
      go_wp2_with fail
      go_region
      go_wp2
      go_roundw
      case rel => exact ⟨i + 1, j - 1, swp dk i j, by go_num, by go_num, by omega, by omega, by rw [size_swpN]; exact hds, (show Aside _ from HSW.out _ (by omega) (by omega)), (show Aside _ from HE.out)⟩
      case measure => simp [intOf]; omega
    · rw [if_neg hij] at hE
      have k1 : ¬ (i : Int) < (j : Int) := by omega
      have HE := Lib.hid hE; clear hE E
      have HF := Lib.hid S0.out
      go_wp2
      go_end0
      rw [← HE.out]
      exact ⟨rfl, HF.out⟩
end
end
end Go.Proofs.YtjgappbomohlcaaGreatDoor
