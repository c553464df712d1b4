/-
  A point that is put to a list: the plain answers' own.
-/
import Derived.Test.YtfohmepjedehfaaPt5
namespace Go.Proofs.Ytfohmepjedehfaa
set_option linter.unusedVariables false
set_option linter.unusedSimpArgs false
open Go.RowKit
theorem slice_front (A : Option Addr) (n c k : Nat) (h : k ≤ c) (W : World) : (Instr.sliceAt 22 (.slice A n c) none (some (.int .i64 (k : Int))) none).run Try.prog W = .ok (.slice A k c) W := by
  rw [run_slice_pt W A n c 0 k c none _ none (.inr ⟨rfl, rfl⟩) (.inl rfl) (.inr ⟨rfl, rfl⟩) (by omega) h (Nat.le_refl _)]
  have : (if c = 0 then A else A.map (·.add (0 * 3))) = A := by
    split
    · rfl
    · cases A with
      | none => rfl
      | some a => simp [Addr.add]
  rw [this]; rfl
theorem pcells_set (l : List Pt) (k : Nat) (r : Pt) (hk : k < l.length) (j : Nat) : (pcells (l.set k r))[j]? = if j < k * 3 then (pcells l)[j]? else if j < k * 3 + 3 then (ptL r)[j - k * 3]? else (pcells l)[j]? := by
  by_cases hj : j < l.length * 3
  · have hq : j / 3 < l.length := by omega
    have hq' : j / 3 < (l.set k r).length := by simpa using hq
    obtain ⟨a0, a1, a2⟩ := pcells_at (l.set k r) (j / 3) hq'
    obtain ⟨b0, b1, b2⟩ := pcells_at l (j / 3) hq
    by_cases e : j / 3 = k
    · have e2 : (l.set k r)[j / 3] = r := by simp [e]
      rw [e2] at a0 a1 a2
      rw [if_neg (by omega), if_pos (by omega)]
      rcases (by omega : j = j / 3 * 3 ∨ j = j / 3 * 3 + 1 ∨ j = j / 3 * 3 + 2) with h | h | h
      · rw [← h] at a0; rw [a0, show j - k * 3 = 0 by omega]; rfl
      · rw [← h] at a1; rw [a1, show j - k * 3 = 1 by omega]; rfl
      · rw [← h] at a2; rw [a2, show j - k * 3 = 2 by omega]; rfl
    · have e2 : (l.set k r)[j / 3] = l[j / 3] := by rw [List.getElem_set_ne (fun h => e h.symm)]
      rw [e2] at a0 a1 a2
      have : (pcells (l.set k r))[j]? = (pcells l)[j]? := by
        rcases (by omega : j = j / 3 * 3 ∨ j = j / 3 * 3 + 1 ∨ j = j / 3 * 3 + 2) with h | h | h
        · rw [← h] at a0 b0; rw [a0, b0]
        · rw [← h] at a1 b1; rw [a1, b1]
        · rw [← h] at a2 b2; rw [a2, b2]
      rw [this]
      split
      · rfl
      · rw [if_neg (by omega)]
  · rw [List.getElem?_eq_none (by rw [pcells_len, List.length_set]; omega), if_neg (by omega), if_neg (by omega), List.getElem?_eq_none (by rw [pcells_len]; omega)]
theorem own_store_pt {w : World} {B g n c : Nat} {l : List Pt} (h : w.ownsRow B 25 3 (.slice (some ⟨g, 0, none⟩) n c) n (pcells l)) {k : Nat} (hk : k < l.length) (hn : l.length = n) :
    ∃ cur, w.heap[g]? = some (.cells cur 25 (0, 0)) ∧ k * 3 + 3 ≤ cur.size ∧ B ≤ g ∧ ∀ (w' : World) (r : Pt), w'.heap[g]? = some (.cells (spl cur (k * 3) (ptL r)) 25 (0, 0)) → w'.ownsRow B 25 3 (.slice (some ⟨g, 0, none⟩) n c) n (pcells (l.set k r)) := by
  rcases h.2 with ⟨h1, _⟩ | ⟨g', cap', cur, e, hB, hg, hnc, hcm, hcs, htk⟩
  · cases h1
  · injection e with e1 e2 e3
    injection e1 with e1
    injection e1 with e1
    subst e1; subst e3
    have hfit : k * 3 + (ptL (0, 0, 0)).length ≤ cur.size := by show k * 3 + 3 ≤ _; omega
    refine ⟨cur, hg, by omega, hB, fun w' r hw' => ⟨by rw [pcells_len, List.length_set, hn], .inr ⟨g, c, _, rfl, hB, hw', hnc, hcm, by rw [spl_size (cs := ptL r) hfit, hcs], ?_⟩⟩⟩
    apply List.ext_getElem?
    intro j
    rw [pcells_set l k r hk j, List.getElem?_take]
    have hc : ∀ i, i < n * 3 → cur[i]? = (pcells l)[i]? := fun i hi => by
      have := congrArg (fun x => x[i]?) htk
      simp only [List.getElem?_take, if_pos hi, Array.getElem?_toList] at this
      exact this
    have hs := spl_get (cur := cur) (off := k * 3) (cs := ptL r) hfit j
    rw [Array.getElem?_toList, hs]
    by_cases hj : j < n * 3
    · rw [if_pos hj, hc j hj]; rfl
    · rw [if_neg hj, if_neg (by omega), if_neg (by omega), List.getElem?_eq_none (by rw [pcells_len]; omega)]
theorem own_form_pt {w : World} {B n c : Nat} {A : Option Addr} {xs : List Value} (h : w.ownsRow B 25 3 (.slice A n c) n xs) (hn : 0 < n) : ∃ g, A = some ⟨g, 0, none⟩ ∧ B ≤ g ∧ g < w.heap.size := by
  rcases h.2 with ⟨h1, h2⟩ | ⟨g', cap', cur, e, hB, hg, hnc, hcm, hcs, htk⟩
  · omega
  · injection e with e1 e2 e3
    exact ⟨g', e1, hB, blk_lt hg⟩
section
set_option maxHeartbeats 1600000
set_option maxRecDepth 100000
theorem rput_any (A : Option Addr) (c : Nat) (l : List Pt) (p : Pt) (w : World) (hx : Rd w A (pcells l)) (hc : l.length ≤ c) (hl : l.length ≤ 1000) :
    Calls Try.prog 19 #[.slice A l.length c, aggPt p] w (PutOut w (putP l p)) := by
  obtain ⟨R, hR⟩ : ∃ R, R = putP l p := ⟨_, rfl⟩
  rw [← hR]
  obtain ⟨W, hW⟩ : ∃ W, W = w.alloc (.cells (boxPt p) 25) := ⟨_, rfl⟩
  have hbw : RowKit.Below w.heap.size w W := by rw [hW]; exact (RowKit.Below.refl _ w).alloc (Nat.le_refl _) _
  have hbx : PBox W w.heap.size p := by rw [hW]; exact PBox.new w p
  have hxW := hx.below hbw
  have hsW := hbw.size
  obtain ⟨b0, b1, b2⟩ := hbx.cells
  have HX := Lib.hid hxW; have HBW := Lib.hid hbw; have HBX := Lib.hid hbx; have HR := Lib.hid hR
  have hrc := rright_any A c l W hxW (by omega)
  clear hx hxW hbw hbx hR
  -- l as it is
  have HCL := Lib.hid (fun (W' : World) (hb : RowKit.Below W.heap.size W W') => rcopied_any A c l W' (HX.out.below hb) (by omega))
  unfold putP at HR
  obtain ⟨p1, p2, p3⟩ := p
  unfold boxPt at hW
  unfold aggPt
  simp only at hW b0 b1 b2 HR ⊢
  have HW := Lib.hid hW; clear hW
  cases hrr : rightB l with
  | false =>
    rw [hrr] at hrc
    rw [if_pos (.inr hrr)] at HR
    have HRC := Lib.hid hrc; clear hrc hrr
    go_enter Try.func19, Try.ntmps19
    go_wp2_with fail
    rw [← HW.out]
    go_wp2_with (first
      | (go_at_call 12; refine HRC.out.mono ?_; rintro e w0 ⟨rfl, hb0⟩)
      | (go_at_call 30; refine (HCL.out w0 hb0).mono ?_; rintro e w1 ⟨A1, c1, rfl, ho1, hb1⟩)
      | fail)
    go_ret3
    have hs0 := hb0.size
    exact ⟨A1, c1, by rw [HR.out]; rfl, by rw [HR.out]; exact ho1.lower (Nat.le_trans hsW hs0), (HBW.out.trans (hb0.mono hsW)).trans (hb1.mono (Nat.le_trans hsW hs0))⟩
  | true =>
    rw [hrr] at hrc
    by_cases hz : p3 = 0
    · rw [if_pos (.inl hz)] at HR
      subst hz
      have HRC := Lib.hid hrc; clear hrc hrr
      go_enter Try.func19, Try.ntmps19
      go_wp2_with fail
      rw [← HW.out]
      go_wp2_with (first
        | (go_at_call 12; refine HRC.out.mono ?_; rintro e w0 ⟨rfl, hb0⟩; obtain ⟨d0, d1, d2⟩ := (HBX.out.below hb0).cells)
        | (go_at_call 30; refine (HCL.out w0 hb0).mono ?_; rintro e w1 ⟨A1, c1, rfl, ho1, hb1⟩)
        | fail)
      go_ret3
      have hs0 := hb0.size
      exact ⟨A1, c1, by rw [HR.out]; rfl, by rw [HR.out]; exact ho1.lower (Nat.le_trans hsW hs0), (HBW.out.trans (hb0.mono hsW)).trans (hb1.mono (Nat.le_trans hsW hs0))⟩
    · have hzb : (p3 == (0 : Int)) = false := by simp [hz]
      rw [if_neg (by rw [hrr]; simp [hz])] at HR
      have HRC := Lib.hid hrc; clear hrc hrr
      have HFI := Lib.hid (fun (W' : World) (hb : RowKit.Below W.heap.size W W') => rfind_any A c l p1 W' (HX.out.below hb) (by omega))
      have hlen : ¬ ((l.length : Int) = 65536) := by omega
      have hlenb : ((l.length : Int) == 65536) = false := by simp [hlen]
      cases hat : isAt l p1 with
      | false =>
        rw [if_neg (by simp [hat]), if_neg (by omega)] at HR
        obtain ⟨k, hk⟩ : ∃ k, k = findP l p1 := ⟨_, rfl⟩
        have hkl : k ≤ l.length := by rw [hk]; exact find_le l p1
        have hwn := with_new (l := l) (p := (p1, p2, p3)) hat
        rw [hat, ← hk] at HFI
        simp only [← hk] at hwn
        have h1 := slice_front A l.length c k (by omega)
        obtain ⟨A2, h2, hv2⟩ := slice_tail A l.length c k hkl hc
        have hlk : (l.take k).length = k := by rw [List.length_take]; omega
        have hld : (l.drop k).length = l.length - k := by rw [List.length_drop]
        have HRC2 := Lib.hid (show ∀ (W' : World), RowKit.Below W.heap.size W W' → Calls Try.prog 30 #[.slice A k c] W' fun e w' => ∃ A' c', e = .returned (.slice A' k c') ∧ w'.ownsRow W'.heap.size 25 3 (.slice A' k c') (l.take k).length (pcells (l.take k)) ∧ RowKit.Below W'.heap.size W' w' from fun W' hb => by
          have := rcopied_any A c (l.take k) W' (rd_take3 (HX.out.below hb) k) (by rw [hlk]; omega)
          rw [hlk] at this
          refine this.mono ?_
          rintro e w' ⟨A', c', rfl, h1, h2⟩
          exact ⟨A', c', rfl, by rw [hlk]; exact h1, h2⟩)
        have HLK := Lib.hid hlk; have HLD := Lib.hid hld; have HV2 := Lib.hid hv2; have HWN := Lib.hid hwn
        clear hat hk hwn hlk hld hv2
        go_enter Try.func19, Try.ntmps19
        go_wp2_with fail
        rw [← HW.out]
        go_wp2_with (first
          | (go_at_call 12; refine HRC.out.mono ?_; rintro e w0 ⟨rfl, hb0⟩; obtain ⟨d0, d1, d2⟩ := (HBX.out.below hb0).cells)
          | (go_at_call 16; refine (HFI.out w0 hb0).mono ?_; rintro e w1 ⟨rfl, hb1⟩; have hb2 := hb0.trans (hb1.mono hb0.size); obtain ⟨e0, e1, e2⟩ := (HBX.out.below hb2).cells)
          | fail)
        have hm2 := Mv.of_below hb2 (fun _ => False)
        have HM2 := Lib.hid hm2
        clear hb0 hb1 hb2 hm2 d0 d1 d2
        obtain ⟨a0, a1, a2⟩ := ((HBX.out.below HM2.out.below).alloc (.cells #[.int .i64 p1, .int .u64 p2, .int .u64 p3] 25)).cells
        simp only at a0 a1 a2 e0 e1 e2
        go_region_law (first
          | (go_simp; go_at_call 30; (with_reducible refine (HRC2.out _ ?_).mono ?_); (focus (exact Mv.below (Mv.trans (T := fun _ => False) HM2.out (by repeat (first | exact Mv.refl _ w1 | refine Mv.alloc ?_ _ | refine Mv.drew ?_)) (fun _ _ f => f)))); rintro e w3 ⟨A3, c3, rfl, ho3, hb3⟩
             have hm3 : Mv (fun _ => False) w1 w3 := Mv.trans (T := fun _ => False) (by repeat (first | exact Mv.refl _ w1 | refine Mv.alloc ?_ _ | refine Mv.drew ?_)) (Mv.of_below hb3 _) (fun _ _ f => f)
             have hlo : W.heap.size ≤ w1.heap.size := HM2.out.size
             have ho4 := ho3.lower (Nat.le_trans hlo (Mv.size (S := fun _ => False) (by repeat (first | exact Mv.refl _ w1 | refine Mv.alloc ?_ _ | refine Mv.drew ?_))))
             obtain ⟨e0, e1, e2⟩ := (HBX.out.below (HM2.out.trans hm3 (fun _ _ f => f)).below).cells
             have hz5 : PBox w3 w1.heap.size (p1, p2, p3) := PBox.below (by first | exact heap_alloc_new _ _ | exact heap_alloc_new w1.drew _ | exact heap_alloc_new w1 _) hb3
             have HZ5 := Lib.hid hz5; clear hz5
             have HM3 := Lib.hid hm3; have HO3 := Lib.hid ho4; have hs3 := hm3.size
             clear hb3 hm3 ho3 ho4)
          | (go_simp; go_at_call 30; (with_reducible refine (HRC2.out _ ?_).mono ?_); (focus (exact Mv.below (Mv.trans (T := fun _ => False) HM2.out (by repeat (first | exact Mv.refl _ w1 | refine Mv.alloc ?_ _ | refine Mv.drew ?_)) (fun _ _ f => f)))); rintro e w3 ⟨A3, c3, rfl, ho3, hb3⟩
             have hm3 : Mv (fun _ => False) w1 w3 := Mv.trans (T := fun _ => False) (by repeat (first | exact Mv.refl _ w1 | refine Mv.alloc ?_ _ | refine Mv.drew ?_)) (Mv.of_below hb3 _) (fun _ _ f => f)
             have hlo : W.heap.size ≤ w1.heap.size := HM2.out.size
             have ho4 := ho3.lower (Nat.le_trans hlo (Mv.size (S := fun _ => False) (by repeat (first | exact Mv.refl _ w1 | refine Mv.alloc ?_ _ | refine Mv.drew ?_))))
             obtain ⟨e0, e1, e2⟩ := (HBX.out.below (HM2.out.trans hm3 (fun _ _ f => f)).below).cells
             have HM3 := Lib.hid hm3; have HO3 := Lib.hid ho4; have hs3 := hm3.size
             clear hb3 hm3 ho3 ho4)
          | (refine step_append_pt rfl (.tmp 39) (.tmp 41) rfl W.heap.size (.slice A3 k c3) (l.take k) rfl (own_mvP (S := fun _ => False) HO3.out (by repeat (first | exact Mv.refl _ w3 | refine Mv.alloc ?_ _ | refine Mv.drew ?_)) (fun _ _ f => f)) (some ⟨w1.heap.size, 0, none⟩) 1 1 [(p1, p2, p3)] rfl rfl (PBox.rd (box_mvP HZ5.out (by repeat (first | exact Mv.refl _ w3 | refine Mv.alloc ?_ _ | refine Mv.drew ?_)))) (by rw [HLK.out]; simp; omega) (Nat.le_trans (Nat.le_trans hlo hs3) (Mv.size (S := fun _ => False) (by repeat (first | exact Mv.refl _ w3 | refine Mv.alloc ?_ _ | refine Mv.drew ?_)))) ?_
             intro v4 w4 own4 grow4
             have hb4 : RowKit.Below W.heap.size W w4 := Below.grown (w := _) (Mv.below ((HM2.out.trans HM3.out (fun _ _ f => f)).trans (T := fun _ => False) (by repeat (first | exact Mv.refl _ w3 | refine Mv.alloc ?_ _ | refine Mv.drew ?_)) (fun _ _ f => f))) grow4 (Nat.le_trans (Nat.le_trans hlo hs3) (Mv.size (S := fun _ => False) (by repeat (first | exact Mv.refl _ w3 | refine Mv.alloc ?_ _ | refine Mv.drew ?_)))) (fun k hk => (HO3.out.lt k hk).1)
             have HB4 := Lib.hid hb4; have HO4 := Lib.hid own4
             clear hb4 own4 grow4)
          | (refine step_append_pt rfl (.tmp 39) (.tmp 41) rfl W.heap.size (.slice A3 k c3) (l.take k) rfl (own_mvP (S := fun _ => False) HO3.out (by repeat (first | exact Mv.refl _ w3 | refine Mv.alloc ?_ _ | refine Mv.drew ?_)) (fun _ _ f => f)) (some ⟨w3.heap.size, 0, none⟩) 1 1 [(p1, p2, p3)] rfl rfl (PBox.rd (by first | exact heap_alloc_new _ _ | exact heap_alloc_new w3.drew _ | exact heap_alloc_new w3 _)) (by rw [HLK.out]; simp; omega) (Nat.le_trans (Nat.le_trans hlo hs3) (Mv.size (S := fun _ => False) (by repeat (first | exact Mv.refl _ w3 | refine Mv.alloc ?_ _ | refine Mv.drew ?_)))) ?_
             intro v4 w4 own4 grow4
             have hb4 : RowKit.Below W.heap.size W w4 := Below.grown (w := _) (Mv.below ((HM2.out.trans HM3.out (fun _ _ f => f)).trans (T := fun _ => False) (by repeat (first | exact Mv.refl _ w3 | refine Mv.alloc ?_ _ | refine Mv.drew ?_)) (fun _ _ f => f))) grow4 (Nat.le_trans (Nat.le_trans hlo hs3) (Mv.size (S := fun _ => False) (by repeat (first | exact Mv.refl _ w3 | refine Mv.alloc ?_ _ | refine Mv.drew ?_)))) (fun k hk => (HO3.out.lt k hk).1)
             have HB4 := Lib.hid hb4; have HO4 := Lib.hid own4
             clear hb4 own4 grow4)
          | fail)
        all_goals
          have hs4 := HB4.out.size
          have HXD := Lib.hid (HV2.out _ l rfl (HX.out.below HB4.out))
          go_wp2_with (first
            | (at_builtin; go_must (refine wpList_append_pt rfl (.tmp 43) (.tmp 46) rfl rfl W.heap.size v4 (l.take k ++ [(p1, p2, p3)]) rfl HO4.out A2 (c - k) (l.drop k) (by rw [HLD.out]; rfl) HXD.out (by rw [List.length_append, HLK.out, HLD.out]; simp; omega) hs4 ?_; intro v5 w5 own5 grow5))
            | fail)
          have hb5 : RowKit.Below W.heap.size W w5 := HB4.out.grown grow5 hs4 (fun k hk => (HO4.out.lt k hk).1)
          rw [List.append_assoc, List.singleton_append, ← HWN.out] at own5
          have HB5 := Lib.hid hb5; have HO5 := Lib.hid own5; clear hb5 own5 grow5
          go_wp2
          go_ret3
          obtain ⟨A', c', e, -, -, -⟩ := own_rd_pt HO5.out
          subst e
          exact ⟨A', c', by rw [HR.out]; rfl, by rw [HR.out]; exact HO5.out.lower hsW, HBW.out.trans (HB5.out.mono hsW)⟩
      | true =>
        rw [if_pos hat] at HR
        obtain ⟨k, hk⟩ : ∃ k, k = findP l p1 := ⟨_, rfl⟩
        obtain ⟨q, hq, hqt, hwn, hgd⟩ := at_parts (p := (p1, p2, p3)) hat
        simp only at hq hqt hwn hgd
        have hr := HR.out
        rw [hgd] at hr
        rw [hat, ← hk] at HFI
        rw [← hk] at hq hwn
        have hkl0 : k < l.length := (List.getElem?_eq_some_iff.1 hq).1
        obtain ⟨kp, hkp⟩ : ∃ kp, kp = cntP (p1, p2, p3) q := ⟨_, rfl⟩
        rw [← hkp] at hwn
        have hset : l.take k ++ kp :: l.drop (k + 1) = l.set k kp := by rw [List.set_eq_take_append_cons_drop, if_pos hkl0]
        rw [hset] at hwn
        have hcnt := cnt_least (p := (p1, p2, p3)) (q := q) hqt.symm
        rw [← hkp] at hcnt
        have HLE := Lib.hid (fun W' => least_any (p1, p2, p3) q W')
        rw [hcnt] at HLE
        have HAH := Lib.hid (fun W' => rahead_any (p1, p2, p3) q W')
        have HQ := Lib.hid hq; have HKL := Lib.hid hkl0; have HRR := Lib.hid hr; have HWN := Lib.hid hwn
        clear hat hk hwn hr hgd hkl0 hq hkp hqt HR hset hcnt
        obtain ⟨q1, q2, q3⟩ := q
        obtain ⟨r1, r2, r3⟩ := kp
        unfold aggPt at HLE HAH
        unfold codeP at HRR
        simp only at HLE HAH HRR
        have k0 : (0 : Int) ≤ (k : Int) := by omega
        have k1 : (k : Int) < (l.length : Int) := by have := HKL.out; omega
        go_enter Try.func19, Try.ntmps19
        go_wp2_with fail
        rw [← HW.out]
        go_wp2_with (first
          | (go_at_call 12; refine HRC.out.mono ?_; rintro e w0 ⟨rfl, hb0⟩; obtain ⟨d0, d1, d2⟩ := (HBX.out.below hb0).cells)
          | (go_at_call 16; refine (HFI.out w0 hb0).mono ?_; rintro e w1 ⟨rfl, hb1⟩; have hb2 := hb0.trans (hb1.mono hb0.size); obtain ⟨e0, e1, e2⟩ := (HBX.out.below hb2).cells)
          | (go_at_call 30; refine (HCL.out w1 hb2).mono ?_; rintro e w3 ⟨A3, c3, rfl, ho3, hb3⟩; have hb4 := hb2.trans (hb3.mono hb2.size); obtain ⟨b, off, rfl, c0, c1, c2⟩ := pt_at' (HX.out.below hb4) HQ.out; obtain ⟨f0, f1, f2⟩ := ((HBX.out.below hb4).alloc (.cells #[.int .i64 q1, .int .u64 q2, .int .u64 q3] 25)).cells; simp only at f0 f1 f2 c0 c1 c2; obtain ⟨g, rfl, hBg, hgl⟩ := own_form_pt ho3 (by omega); have hoW := ho3.lower hb2.size; have HOW := Lib.hid hoW; clear ho3 hoW)
          | fail)
        refine (HLE.out _).mono ?_
        rintro e w5 ⟨rfl, hb5⟩
        have ho5 := own_below_pt (own_below_pt HOW.out ((RowKit.Below.refl _ w3).alloc (Nat.le_refl _) (.cells #[.int .i64 q1, .int .u64 q2, .int .u64 q3] 25))) hb5
        obtain ⟨cur, hcur, hfit, hgW, hstore⟩ := own_store_pt ho5 HKL.out rfl
        have HST := Lib.hid hstore
        have hq5 := PBox.below (PBox.new w3 (q1, q2, q3)) hb5
        have hp5 := PBox.below ((HBX.out.below hb4).alloc (.cells (boxPt (q1, q2, q3)) 25)) hb5
        have hb6 := hb4.trans ((((RowKit.Below.refl _ w3).alloc (Nat.le_refl _) (.cells (boxPt (q1, q2, q3)) 25)).trans (hb5.mono (by simp))).mono hb4.size)
        have HP5 := Lib.hid hp5
        have HQ5 := Lib.hid hq5
        clear hstore ho5 hp5 hq5
        by_cases hpq : p2 = q2
        · have hpb : (p2 == q2) = true := by simp [hpq]
          have HPQ := Lib.hid hpq; clear hpq
          go_wp2_with (first
            | (refine wpList_store_agg (o := ⟨none, _, _, _, _, _⟩) ?_ 25 (.tmp 59) (.tmp 58) ?_ g (k * 3) (ptL (r1, r2, r3)) ?_ ?_ 25 cur hcur ?_ ?_ ?_ ?_; rfl; rfl; rfl; rfl; kernel_rfl; exact hfit; exact ptL_one _; go_must (intro w9 hw9 hm9 hs9; have ho9 := HST.out w9 (r1, r2, r3) hw9; have hp9 : PBox w9 w.heap.size (p1, p2, p3) := (hm9.block _ (blk_lt HP5.out) (fun e => by have := blk_lt HBX.out; omega)).trans HP5.out; have hq9 : PBox w9 w3.heap.size (q1, q2, q3) := (hm9.block _ (blk_lt HQ5.out) (fun e => by omega)).trans HQ5.out; have hb9 : RowKit.Below W.heap.size W w9 := hb6.trans (hm9.belowB hb6.size (fun i hi e => by omega)); obtain ⟨g0, g1, g2⟩ := hp9.cells; obtain ⟨j0, j1, j2⟩ := hq9.cells; simp only at g0 g1 g2 j0 j1 j2; have HO9 := Lib.hid ho9; have HB9 := Lib.hid hb9; clear ho9 hp9 hq9 hm9 hb9))
            | fail)
          go_ret3
          refine ⟨some ⟨g, 0, none⟩, c3, ?_, ?_, HBW.out.trans (HB9.out.mono hsW)⟩
          · rw [HRR.out, if_pos HPQ.out, HWN.out, List.length_set]; rfl
          · rw [HRR.out]; simp only; rw [HWN.out, List.length_set]; exact HO9.out.lower hsW
        · have hpb : (p2 == q2) = false := by simp [hpq]
          go_wp2_with (first
            | (refine wpList_store_agg (o := ⟨none, _, _, _, _, _⟩) ?_ 25 (.tmp 59) (.tmp 58) ?_ g (k * 3) (ptL (r1, r2, r3)) ?_ ?_ 25 cur hcur ?_ ?_ ?_ ?_; rfl; rfl; rfl; rfl; kernel_rfl; exact hfit; exact ptL_one _; go_must (intro w9 hw9 hm9 hs9; have ho9 := HST.out w9 (r1, r2, r3) hw9; have hp9 : PBox w9 w.heap.size (p1, p2, p3) := (hm9.block _ (blk_lt HP5.out) (fun e => by have := blk_lt HBX.out; omega)).trans HP5.out; have hq9 : PBox w9 w3.heap.size (q1, q2, q3) := (hm9.block _ (blk_lt HQ5.out) (fun e => by omega)).trans HQ5.out; have hb9 : RowKit.Below W.heap.size W w9 := hb6.trans (hm9.belowB hb6.size (fun i hi e => by omega)); obtain ⟨g0, g1, g2⟩ := hp9.cells; obtain ⟨j0, j1, j2⟩ := hq9.cells; simp only at g0 g1 g2 j0 j1 j2; have HO9 := Lib.hid ho9; have HB9 := Lib.hid hb9; clear ho9 hp9 hq9 hm9 hb9))
            | fail)
          refine (HAH.out _).mono ?_
          rintro e w10 ⟨rfl, hb10⟩
          have ho10 := own_below_pt HO9.out hb10
          have hb11 := HB9.out.trans (hb10.mono HB9.out.size)
          have HRQ := HRR.out
          rw [if_neg hpq] at HRQ
          have HR2 := Lib.hid HRQ; have HO10 := Lib.hid ho10; have HB11 := Lib.hid hb11
          clear HRQ ho10 hb11 hb10
          generalize aheadB (p1, p2, p3) (q1, q2, q3) = ah at HR2
          cases ah
          · go_wp2
            go_ret3
            refine ⟨some ⟨g, 0, none⟩, c3, ?_, ?_, HBW.out.trans (HB11.out.mono hsW)⟩
            · rw [HR2.out, HWN.out, List.length_set]; rfl
            · rw [HR2.out]; simp only; rw [HWN.out, List.length_set]; exact HO10.out.lower hsW
          · go_wp2
            go_ret3
            refine ⟨some ⟨g, 0, none⟩, c3, ?_, ?_, HBW.out.trans (HB11.out.mono hsW)⟩
            · rw [HR2.out, HWN.out, List.length_set]; rfl
            · rw [HR2.out]; simp only; rw [HWN.out, List.length_set]; exact HO10.out.lower hsW
end
end Go.Proofs.Ytfohmepjedehfaa
