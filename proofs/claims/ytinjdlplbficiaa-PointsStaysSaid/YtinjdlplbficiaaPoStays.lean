/-
  PointsStays (P9.6): a point that is put is there, or one that counts is there in its place; all others are left, and what is right stays so. No condition.
-/
import Derived.Test.YtinjdlplbficiaaPv
import Derived.Test.YtinjdlplbficiaaPt8
import Derived.Test.YtinjdlplbficiaaPt3
namespace Go.Proofs.Ytinjdlplbficiaa
set_option linter.unusedVariables false
set_option linter.unusedSimpArgs false
open Go.ChangeShapes Go.WideShapes Go.ChangeAt Go.RowKit

/-- What the point in p's place is to p, as the code says. -/
def OkN (n : Int) (p x : Pt) : Prop := aheadB p x = false ∧ x.1 = p.1 ∧ (n = 1 ∧ x = p ∨ n = 2 ∧ x.2.1 = p.2.1 ∨ n = 3 ∧ x = p ∨ n = 4 ∧ x.2.1 ≠ p.2.1)
def hereB (p q : Pt) : Bool := decide (q.1 = p.1)
def otherB (p q : Pt) : Bool := decide (q.1 ≠ p.1)
theorem stays_code {l : List Pt} {p : Pt} (h0 : p.2.2 ≠ 0) (hr : rightB l = true) (hl : l.length ≤ 400) : ∃ n x, putP l p = (mergeL l [p], n, 0) ∧ (mergeL l [p]).filter (hereB p) = [x] ∧ OkN n p x ∧
    ((n = 1) ↔ (mergeL l [p]).length = l.length + 1) := by
  obtain ⟨h1, h2, hs⟩ := (right_iff l).1 hr
  have hh := put_here hs p
  have hn : ¬ (p.2.2 = 0 ∨ rightB l = false) := by rw [hr]; simp [h0]
  cases ha : isAt l p.1 with
  | false =>
    refine ⟨1, p, ?_, ?_, ⟨?_, rfl, .inl ⟨rfl, rfl⟩⟩, ?_⟩
    · unfold putP; rw [if_neg hn, ha, if_neg (by simp), if_neg (by omega)]
    · unfold hereB; rw [hh]
      cases hg : l[findP l p.1]? with
      | none => rfl
      | some q =>
        obtain ⟨hb, e⟩ := List.getElem?_eq_some_iff.1 hg
        have := isAt_not ha hb
        rw [e] at this
        simp only [if_neg this]
    · rw [ahead_not]; omega
    · exact ⟨fun _ => put_len_new ha, fun _ => rfl⟩
  | true =>
    obtain ⟨hb, e⟩ := isAt_some ha
    obtain ⟨q, hq⟩ : ∃ q, l[findP l p.1]? = some q := ⟨_, List.getElem?_eq_getElem hb⟩
    have eq : q.1 = p.1 := by obtain ⟨hb', e'⟩ := List.getElem?_eq_some_iff.1 hq; rw [← e']; exact e
    have hd : l.getD (findP l p.1) p = q := by rw [List.getD_eq_getElem?_getD, hq]; rfl
    refine ⟨codeP p q, cntP p q, ?_, ?_, ⟨?_, ?_, ?_⟩, ?_⟩
    · unfold putP; rw [if_neg hn, ha, if_pos rfl, hd]
    · unfold hereB; rw [hh, hq]; simp only [if_pos eq]
    · exact (cnt_none p q).1
    · exact cnt_time eq.symm
    · unfold codeP
      split
      · rename_i hv
        refine .inr (.inl ⟨rfl, ?_⟩)
        rcases cnt_or p q with e1 | e1 <;> rw [e1]
        exact hv.symm
      · rename_i hv
        split
        · rename_i hx
          exact .inr (.inr (.inl ⟨rfl, (code_kept hv eq.symm).2 hx⟩))
        · rename_i hx
          refine .inr (.inr (.inr ⟨rfl, ?_⟩))
          have : ¬ cntP p q = p := fun h => hx ((code_kept hv eq.symm).1 h)
          rcases cnt_or p q with e1 | e1
          · exact absurd e1 this
          · rw [e1]; exact fun h => hv h.symm
    · have := put_len_at ha
      refine ⟨fun h => ?_, fun h => by omega⟩
      exfalso; unfold codeP at h
      split at h
      · omega
      · split at h <;> omega
theorem here_not {p q : Pt} (h : q.1 ≠ p.1) : hereB p q = false := by simp [hereB, h]
theorem here_is {p q : Pt} (h : q.1 = p.1) : hereB p q = true := by simp [hereB, h]
theorem other_not {p q : Pt} (h : q.1 = p.1) : otherB p q = false := by simp [otherB, h]
theorem other_is {p q : Pt} (h : q.1 ≠ p.1) : otherB p q = true := by simp [otherB, h]
theorem filter_take {l : List Pt} {k : Nat} {q : Pt} (h : l[k]? = some q) (f : Pt → Bool) : ((l.take (k + 1)).filter f).length = ((l.take k).filter f).length + (if f q = true then 1 else 0) := by
  obtain ⟨hk, rfl⟩ := List.getElem?_eq_some_iff.1 h
  rw [List.take_succ_eq_append_getElem hk, List.filter_append, List.length_append]
  congr 1
  by_cases hf : f l[k] = true <;> simp [List.filter_cons, hf]
theorem filter_drop {l : List Pt} {k : Nat} {q : Pt} (h : l[k]? = some q) (f : Pt → Bool) : ((l.drop k).filter f).length = ((l.drop (k + 1)).filter f).length + (if f q = true then 1 else 0) := by
  obtain ⟨hk, rfl⟩ := List.getElem?_eq_some_iff.1 h
  rw [List.drop_eq_getElem_cons hk, List.filter_cons]
  by_cases hf : f l[k] = true
  · rw [if_pos hf, if_pos hf, List.length_cons]
  · rw [if_neg hf, if_neg hf]; rfl
section
set_option maxHeartbeats 1600000
set_option maxRecDepth 100000
theorem pointsStays_walk (A : Option Addr) (c : Nat) (l : List Pt) (p : Pt) (w : World) (hx : Rd w A (pcells l)) (hc : l.length ≤ c) :
    Calls Try.prog 3 #[.slice A l.length c, .agg #[.int .i64 p.1, .int .u64 p.2.1, .int .u64 p.2.2]] w fun e w' => e = .returned (.bool true) ∧ RowKit.Below w.heap.size w w' := by
  obtain ⟨W, hW⟩ : ∃ W, W = w.alloc (.cells (boxPt p) 25) := ⟨_, rfl⟩
  have hbw : RowKit.Below w.heap.size w W := by rw [hW]; exact (RowKit.Below.refl _ w).alloc (Nat.le_refl _) _
  have hbx : PBox W w.heap.size p := by rw [hW]; exact PBox.new w p
  have HX := Lib.hid (hx.below hbw); have HBW := Lib.hid hbw; have HBX := Lib.hid hbx
  unfold boxPt at hW
  have HW := Lib.hid hW; clear hx hbw hbx hW
  have hsW := HBW.out.size
  have HF := Lib.hid (fun w => few_any A c l w)
  by_cases h : l.length ≤ 400
  · rw [decide_eq_true h] at HF
    have HPUT := Lib.hid (fun A c W' hx hc hl => put_any A c l p W' hx hc hl)
    by_cases hbad : p.2.2 = 0 ∨ rightB l = false
    · have hR : putP l p = (l, 0, 1) := by unfold putP; rw [if_pos hbad]
      rw [hR] at HPUT
      clear hR
      have HRT := Lib.hid (fun W' hx => right_any A c l W' hx (by omega))
      obtain ⟨p1, p2, p3⟩ := p
      unfold aggPt at HPUT
      simp only at HPUT HW hbad ⊢
      go_enter Try.func3, Try.ntmps3
      go_wp2_with fail
      rw [← HW.out]
      go_wp2_with (first
        | (go_at_call 9; refine (live_any W).mono ?_; rintro e w1 ⟨rfl, hb1⟩; obtain ⟨d0, d1, d2⟩ := (HBX.out.below hb1).cells; simp only at d0 d1 d2)
        | (go_at_call 10; refine (HF.out _).mono ?_; rintro e w2 ⟨rfl, rfl⟩)
        | fail)
      refine (HPUT.out A c _ (HX.out.below hb1) (by omega) (by omega)).mono ?_
      rintro e w4 ⟨A4, c4, rfl, ho4, hb4⟩
      have HB4 := Lib.hid (hb1.trans (hb4.mono hb1.size))
      have HO4 := Lib.hid ho4
      obtain ⟨X4, k4, E4, R4, L4, -⟩ := own_rd_pt HO4.out
      injection E4 with E4 _ E4'
      subst E4; subst E4'
      have HR4 := Lib.hid R4
      obtain ⟨e0, e1, e2⟩ := (HBX.out.below HB4.out).cells
      simp only at e0 e1 e2
      clear hb4 ho4 hb1 d0 d1 d2 R4
      go_wp2_with fail
      refine (same_any A A4 c c4 l l _ (HX.out.below HB4.out) HR4.out (by omega) (by omega)).mono ?_
      rintro e w6 ⟨rfl, hb6⟩
      rw [decide_eq_true rfl]
      have HB6 := Lib.hid (HB4.out.trans (hb6.mono HB4.out.size))
      clear hb6 e0 e1 e2
      go_wp2_with fail
      refine (HRT.out _ (HX.out.below HB6.out)).mono ?_
      rintro e w7 ⟨rfl, hb7⟩
      have HB7 := Lib.hid (HB6.out.trans (hb7.mono HB6.out.size))
      obtain ⟨e0, e1, e2⟩ := (HBX.out.below HB7.out).cells
      simp only at e0 e1 e2
      clear hb7
      cases hr : rightB l with
      | false =>
        go_wp2
        go_ret
        exact ⟨rfl, HBW.out.trans (HB7.out.mono hsW)⟩
      | true =>
        rw [hr] at hbad
        have h3 : p3 = 0 := by simpa using hbad
        subst h3
        go_wp2
        go_ret
        exact ⟨rfl, HBW.out.trans (HB7.out.mono hsW)⟩
    · have h0 : p.2.2 ≠ 0 := fun h => hbad (.inl h)
      have hr : rightB l = true := by cases hh : rightB l <;> simp_all
      obtain ⟨n, x, hR, hhx, hok, hn1⟩ := stays_code h0 hr h
      obtain ⟨-, -, hsl⟩ := (right_iff l).1 hr
      have hoth := put_others hsl p
      have hsr : Srt (mergeL l [p]) := merge_srt l [p] hsl (srt_single p)
      have hrr : rightB (mergeL l [p]) = true := merge_right hr (by simp [rightB, chainB, h0]) (by have := put_len l p; omega)
      have hle := put_len l p
      have hins : ∀ q ∈ l, q.1 ≠ p.1 → q ∈ mergeL l [p] := fun q hq hne => by
        have : q ∈ l.filter (fun q => decide (q.1 ≠ p.1)) := by simp [hq, hne]
        rw [← hoth] at this
        exact (List.mem_filter.1 this).1
      rw [hR] at HPUT
      generalize mergeL l [p] = R at HPUT hR hhx hn1 hoth hsr hrr hle hins
      clear hR hbad
      have HHX := Lib.hid hhx; have HOK := Lib.hid hok; have HN1 := Lib.hid hn1; have HOTH := Lib.hid hoth; have HSR := Lib.hid hsr; have HINS := Lib.hid hins
      have HRT := Lib.hid (fun A c W' hx => right_any A c R W' hx (by omega))
      have HFD := Lib.hid (fun A c t W' hx => find_any A c R t W' hx (by omega))
      rw [hrr] at HRT
      clear hhx hok hn1 hoth hsr hrr hins hr h0 hsl
      have HAH := Lib.hid (fun W' => ahead_any p x W')
      rw [HOK.out.1] at HAH
      obtain ⟨p1, p2, p3⟩ := p
      unfold aggPt at HPUT HAH
      simp only at HPUT HW HAH ⊢
      go_enter Try.func3, Try.ntmps3
      go_wp2_with fail
      rw [← HW.out]
      go_wp2_with (first
        | (go_at_call 9; refine (live_any W).mono ?_; rintro e w1 ⟨rfl, hb1⟩; obtain ⟨d0, d1, d2⟩ := (HBX.out.below hb1).cells; simp only at d0 d1 d2)
        | (go_at_call 10; refine (HF.out _).mono ?_; rintro e w2 ⟨rfl, rfl⟩)
        | fail)
      refine (HPUT.out A c _ (HX.out.below hb1) (by omega) (by omega)).mono ?_
      rintro e w4 ⟨A4, c4, rfl, ho4, hb4⟩
      have HB4 := Lib.hid (hb1.trans (hb4.mono hb1.size))
      have HO4 := Lib.hid ho4
      obtain ⟨X4, k4, E4, R4, L4, -⟩ := own_rd_pt HO4.out
      injection E4 with E4 _ E4'
      subst E4; subst E4'
      have HR4 := Lib.hid R4
      have HBX4 := Lib.hid (HBX.out.below HB4.out)
      have HX4 := Lib.hid (HX.out.below HB4.out)
      clear hb4 ho4 hb1 d0 d1 d2 R4
      go_wp2
      go_loopw [8, 9, 52] (fun s8 s9 s52 wr => ∃ k n8 n9 : Nat, s52 = .int .i64 k ∧ k ≤ R.length ∧ s8 = .int .i64 n8 ∧ s9 = .int .i64 n9 ∧ n8 ≤ k ∧ n9 ≤ k ∧ Aside (n8 = ((R.take k).filter (hereB (p1, p2, p3))).length ∧ n9 = ((R.take k).filter (otherB (p1, p2, p3))).length) ∧ Aside (RowKit.Below w4.heap.size w4 wr)) (fun _ _ s52 _ => R.length - (intOf s52).toNat)
      case atStart => exact ⟨0, 0, 0, rfl, by omega, rfl, rfl, by omega, by omega, ⟨rfl, rfl⟩, RowKit.Below.refl _ _⟩
      case round =>
        obtain ⟨k, n8, n9, rfl, hk, rfl, rfl, hn8, hn9, N89, BW⟩ := hrel
        have k0 : (0 : Int) ≤ (k : Int) := by omega
        by_cases hlt : k < R.length
        · have k1 : (k : Int) < (R.length : Int) := by omega
          obtain ⟨q, hq⟩ : ∃ q, R[k]? = some q := ⟨_, List.getElem?_eq_getElem hlt⟩
          obtain ⟨b, off, rfl, c0, c1, c2⟩ := pt_at' (HR4.out.below BW.out) hq
          have t8 := filter_take hq (hereB (p1, p2, p3)); have t9 := filter_take hq (otherB (p1, p2, p3))
          rw [← N89.out.1] at t8; rw [← N89.out.2] at t9
          have HB5 := Lib.hid (BW.out.alloc BW.out.size (.cells (boxPt q) 25))
          have HQX := Lib.hid (PBox.new wr q)
          have HPX := Lib.hid ((HBX4.out.below BW.out).alloc (.cells (boxPt q) 25))
          clear N89 BW
          by_cases hqt : q.1 = p1
          · obtain rfl : q = x := by
              have : q ∈ R.filter (hereB (p1, p2, p3)) := List.mem_filter.2 ⟨List.mem_of_getElem? hq, here_is hqt⟩
              rw [HHX.out] at this; simpa using this
            rw [here_is (p := (p1, p2, p3)) hqt, if_pos rfl] at t8
            rw [other_not (p := (p1, p2, p3)) hqt, if_neg (by simp), Nat.add_zero] at t9
            have H89 := Lib.hid (And.intro t8.symm t9.symm)
            obtain ⟨-, -, hok⟩ := HOK.out
            clear hq t8 t9 HOK HHX
            obtain ⟨q1, q2, q3⟩ := q
            unfold boxPt at HB5 HQX HPX
            obtain ⟨e0, e1, e2⟩ := HPX.out.cells
            simp only at c0 c1 c2 e0 e1 e2 hqt hok HB5 HQX HPX HAH
            subst hqt
            rcases hok with ⟨rfl, hqx⟩ | ⟨rfl, hqx⟩ | ⟨rfl, hqx⟩ | ⟨rfl, hqx⟩
            · obtain ⟨rfl, rfl⟩ : q2 = p2 ∧ q3 = p3 := by injection hqx with h1 h2; injection h2 with h2 h3; exact ⟨h2, h3⟩
              clear hqx
              go_wp2_with (first
                | (go_at_call 14; refine (HAH.out _).mono ?_; rintro e w5 ⟨rfl, hb5⟩; have hb6 := HB5.out.trans (hb5.mono HB5.out.size); have HB6 := Lib.hid hb6; obtain ⟨f0, f1, f2⟩ := (HPX.out.below hb5).cells; obtain ⟨g0, g1, g2⟩ := (HQX.out.below hb5).cells; simp only at f0 f1 f2 g0 g1 g2; clear hb6)
                | fail)
              all_goals
                go_roundw
                case rel => exact ⟨k + 1, n8 + 1, n9, by go_num, by omega, by go_num, rfl, by omega, by omega, H89.out, (show Aside _ from HB6.out)⟩
                case measure => simp [intOf]; omega
            · subst hqx
              go_wp2_with (first
                | (go_at_call 14; refine (HAH.out _).mono ?_; rintro e w5 ⟨rfl, hb5⟩; have hb6 := HB5.out.trans (hb5.mono HB5.out.size); have HB6 := Lib.hid hb6; obtain ⟨f0, f1, f2⟩ := (HPX.out.below hb5).cells; obtain ⟨g0, g1, g2⟩ := (HQX.out.below hb5).cells; simp only at f0 f1 f2 g0 g1 g2; clear hb6)
                | fail)
              all_goals
                go_roundw
                case rel => exact ⟨k + 1, n8 + 1, n9, by go_num, by omega, by go_num, rfl, by omega, by omega, H89.out, (show Aside _ from HB6.out)⟩
                case measure => simp [intOf]; omega
            · obtain ⟨rfl, rfl⟩ : q2 = p2 ∧ q3 = p3 := by injection hqx with h1 h2; injection h2 with h2 h3; exact ⟨h2, h3⟩
              clear hqx
              go_wp2_with (first
                | (go_at_call 14; refine (HAH.out _).mono ?_; rintro e w5 ⟨rfl, hb5⟩; have hb6 := HB5.out.trans (hb5.mono HB5.out.size); have HB6 := Lib.hid hb6; obtain ⟨f0, f1, f2⟩ := (HPX.out.below hb5).cells; obtain ⟨g0, g1, g2⟩ := (HQX.out.below hb5).cells; simp only at f0 f1 f2 g0 g1 g2; clear hb6)
                | fail)
              all_goals
                go_roundw
                case rel => exact ⟨k + 1, n8 + 1, n9, by go_num, by omega, by go_num, rfl, by omega, by omega, H89.out, (show Aside _ from HB6.out)⟩
                case measure => simp [intOf]; omega
            · go_wp2_with (first
                | (go_at_call 14; refine (HAH.out _).mono ?_; rintro e w5 ⟨rfl, hb5⟩; have hb6 := HB5.out.trans (hb5.mono HB5.out.size); have HB6 := Lib.hid hb6; obtain ⟨f0, f1, f2⟩ := (HPX.out.below hb5).cells; obtain ⟨g0, g1, g2⟩ := (HQX.out.below hb5).cells; simp only at f0 f1 f2 g0 g1 g2; clear hb6)
                | fail)
              all_goals
                go_roundw
                case rel => exact ⟨k + 1, n8 + 1, n9, by go_num, by omega, by go_num, rfl, by omega, by omega, H89.out, (show Aside _ from HB6.out)⟩
                case measure => simp [intOf]; omega
          · rw [here_not (p := (p1, p2, p3)) hqt, if_neg (by simp), Nat.add_zero] at t8
            rw [other_is (p := (p1, p2, p3)) hqt, if_pos rfl] at t9
            have H89 := Lib.hid (And.intro t8.symm t9.symm)
            clear hq t8 t9
            obtain ⟨q1, q2, q3⟩ := q
            unfold boxPt at HB5 HQX HPX
            obtain ⟨e0, e1, e2⟩ := HPX.out.cells
            simp only at c0 c1 c2 e0 e1 e2 hqt HB5 HQX HPX
            go_wp2_with fail
            go_roundw
            case rel => exact ⟨k + 1, n8, n9 + 1, by go_num, by omega, rfl, by go_num, by omega, by omega, H89.out, (show Aside _ from HB5.out)⟩
            case measure => simp [intOf]; omega
        · obtain rfl : k = R.length := by omega
          have h89 := N89.out
          rw [List.take_length, HHX.out] at h89
          obtain ⟨rfl, h9⟩ := h89
          have h9' : n9 = ((l.drop 0).filter (otherB (p1, p2, p3))).length := by rw [h9, List.drop_zero]; exact congrArg List.length HOTH.out
          have H9 := Lib.hid h9'
          have HB5 := Lib.hid BW.out
          have hn9' : n9 ≤ l.length := by rw [h9', List.drop_zero]; exact List.length_filter_le _ _
          clear h9 h9' N89 BW hlt hk k0
          go_wp2
          obtain ⟨w9, rfl⟩ : ∃ w9, w9 = wr := ⟨_, rfl⟩
          go_loopw [9, 106] (fun s9 s106 wr => ∃ k m9 : Nat, s106 = .int .i64 k ∧ k ≤ l.length ∧ s9 = .int .i64 m9 ∧ m9 ≤ l.length ∧ Aside (m9 = ((l.drop k).filter (otherB (p1, p2, p3))).length) ∧ Aside (RowKit.Below w4.heap.size w4 wr)) (fun _ s106 _ => l.length - (intOf s106).toNat)
          case atStart => exact ⟨0, n9, rfl, by omega, rfl, hn9', H9.out, HB5.out⟩
          case round =>
            obtain ⟨k, m9, rfl, hk, rfl, hm9, M9, BW⟩ := hrel
            have k0 : (0 : Int) ≤ (k : Int) := by omega
            by_cases hlt : k < l.length
            · have k1 : (k : Int) < (l.length : Int) := by omega
              obtain ⟨q, hq⟩ : ∃ q, l[k]? = some q := ⟨_, List.getElem?_eq_getElem hlt⟩
              obtain ⟨b, off, rfl, c0, c1, c2⟩ := pt_at' (HX4.out.below BW.out) hq
              have t9 := filter_drop hq (otherB (p1, p2, p3))
              rw [← M9.out] at t9
              have HB6 := Lib.hid (BW.out.alloc BW.out.size (.cells (boxPt q) 25))
              have HQX := Lib.hid (PBox.new wr q)
              have HPX := Lib.hid ((HBX4.out.below BW.out).alloc (.cells (boxPt q) 25))
              have HR6 := Lib.hid ((HR4.out.below BW.out).alloc (.cells (boxPt q) 25))
              clear M9 BW
              by_cases hqt : q.1 = p1
              · rw [other_not (p := (p1, p2, p3)) hqt, if_neg (by simp), Nat.add_zero] at t9
                have H9 := Lib.hid t9
                clear hq t9
                obtain ⟨q1, q2, q3⟩ := q
                unfold boxPt at HB6 HQX HPX HR6
                obtain ⟨e0, e1, e2⟩ := HPX.out.cells
                simp only at c0 c1 c2 e0 e1 e2 hqt HB6 HQX HPX
                subst hqt
                go_wp2_with fail
                go_roundw
                case rel => exact ⟨k + 1, m9, by go_num, by omega, rfl, hm9, H9.out, (show Aside _ from HB6.out)⟩
                case measure => simp [intOf]; omega
              · rw [other_is (p := (p1, p2, p3)) hqt, if_pos rfl] at t9
                obtain ⟨m8, hm8⟩ : ∃ m, m = ((l.drop (k + 1)).filter (otherB (p1, p2, p3))).length := ⟨_, rfl⟩
                rw [← hm8] at t9
                have H9 := Lib.hid hm8
                have hqR := HINS.out q (List.mem_of_getElem? hq) hqt
                have hfm := find_mem HSR.out hqR
                have hia : isAt R q.1 = true := by unfold isAt; rw [hfm]; simp
                obtain ⟨n0, hn0⟩ : ∃ n0, n0 = findP R q.1 := ⟨_, rfl⟩
                have HFQ := Lib.hid (fun (W' : World) (hx : Rd W' A4 (pcells R)) => (HFD.out A4 c4 q.1 W' hx).mono (R' := fun e w' => e = .returned (.tuple #[.int .i64 (n0 : Int), .bool true]) ∧ RowKit.Below W'.heap.size W' w') (fun e w' ⟨⟨n, bb, he, hn, hs⟩, hb⟩ => ⟨by obtain ⟨h1, h2⟩ := hs HSR.out; rw [he, h1, h2, hia, ← hn0], hb⟩))
                rw [← hn0] at hfm
                have hn0l : n0 < R.length := (List.getElem?_eq_some_iff.1 hfm).1
                have HFM := Lib.hid hfm
                obtain rfl : m9 = m8 + 1 := t9
                obtain ⟨b4, off4, rfl, r0, r1, r2⟩ := pt_at' HR6.out hfm
                have z0 : (0 : Int) ≤ (n0 : Int) := by omega
                have z1 : (n0 : Int) < (R.length : Int) := by omega
                have z2 : decide ((n0 : Int) < 0) = false := decide_eq_false (by omega)
                have z3 : decide ((R.length : Int) ≤ (n0 : Int)) = false := decide_eq_false (by omega)
                clear hq hm8 hqR hfm hia hn0 r0 r1 r2
                obtain ⟨q1, q2, q3⟩ := q
                unfold boxPt at HB6 HQX HPX HR6
                obtain ⟨e0, e1, e2⟩ := HPX.out.cells
                simp only at c0 c1 c2 e0 e1 e2 hqt HB6 HQX HPX HFQ
                go_wp2_with (first
                  | (go_at_call 15; refine (HFQ.out _ HR6.out).mono ?_; rintro e w5 ⟨rfl, hb5⟩; have hb7 := HB6.out.trans (hb5.mono HB6.out.size); have HB7 := Lib.hid hb7; obtain ⟨g0, g1, g2⟩ := (HQX.out.below hb5).cells; simp only at g0 g1 g2; obtain ⟨b5, off5, e5, r0, r1, r2⟩ := pt_at' (HR6.out.below hb5) HFM.out; injection e5 with e5; injection e5 with e5 e6; subst e5; subst e6; simp only at r0 r1 r2; clear hb7)
                  | fail)
                go_quiet (fail)
                go_wp2
                go_roundw
                case rel =>
                  repeat (apply Exists.intro)
                  refine And.intro ?_ rfl
                  exact ⟨k + 1, m8, by go_num, by omega, by go_num, by omega, H9.out, (show Aside _ from by first | exact HB7.out | exact below_drewN HB7.out _)⟩
                case measure => simp [intOf]; omega
            · obtain rfl : k = l.length := by omega
              have h9 := M9.out
              rw [List.drop_length] at h9
              obtain rfl : m9 = 0 := h9
              have HB6 := Lib.hid BW.out
              have hn1 := HN1.out
              have hnr : (n == 1) = ((R.length : Int) == (l.length : Int) + 1) := by
                by_cases h1 : n = 1
                · have := hn1.1 h1
                  rw [h1, beq_self_eq_true, eq_comm, beq_iff_eq]; omega
                · have h2 : ¬ R.length = l.length + 1 := fun e => h1 (hn1.2 e)
                  rw [beq_eq_false_iff_ne.2 h1, beq_eq_false_iff_ne.2 (by omega)]
              clear hn1 M9 BW
              go_wp2_with fail
              refine (HRT.out _ c4 _ (HR4.out.below HB6.out)).mono ?_
              rintro e w7 ⟨rfl, hb7⟩
              have HB7 := Lib.hid (HB6.out.trans (hb7.mono HB6.out.size))
              clear hb7
              go_wp2
              go_ret
              exact ⟨by simp_all, HBW.out.trans ((HB4.out.trans (HB7.out.mono HB4.out.size)).mono hsW)⟩
  · rw [decide_eq_false h] at HF
    go_enter Try.func3, Try.ntmps3
    go_wp2_with fail
    rw [← HW.out]
    go_wp2_with (first
      | (go_at_call 9; refine (live_any W).mono ?_; rintro e w1 ⟨rfl, hb1⟩)
      | (go_at_call 10; refine (HF.out _).mono ?_; rintro e w2 ⟨rfl, rfl⟩)
      | fail)
    refine (live_any _).mono ?_
    rintro e w3 ⟨rfl, hb3⟩
    go_wp2
    go_ret
    exact ⟨rfl, HBW.out.trans ((hb1.trans (hb3.mono hb1.size)).mono hsW)⟩
end

set_option maxRecDepth 100000 in
theorem pointsStays_lifted (os : Os) (started : os.Started) (H : Type) (enc : TypeId × Value → H) :
    ReturnsInHanded {} Try.checked os 3 .any (Rows.pointsStaysSpec.pre6 enc Try.prog Try.f3 Rows.pointsStaysRow.domain false) (Rows.pointsStaysSpec.post enc Try.prog Try.f3 false true false false) := by
  refine returnsInHanded_of_change (C := Try.checked) ownKn started (by kernel_rfl) Try.func3
    (ChangeSpec.witness6 (enc := enc) (C := Try.checked) false ⟨#[], #[.slice none 0 0, .agg #[.int .i64 0, .int .u64 0, .int .u64 0]], []⟩ 8 (by kernel_rfl) (by kernel_rfl) (by kernel_rfl) (by kernel_rfl)) ?_
  intro W base args ds gs before hval0 hW hcnd _
  have hval : ∀ (j : Nat) t v, Try.f3.params[j]? = some t → args[j]? = some v → Value.okWide Try.prog W .any base t v := hval0
  have hW' := hW
  obtain ⟨p, q, hA0, hV, rfl, hfz, hnd⟩ := hW
  have hA : DataW.TrodAll enc Try.prog W 0 (fun _ => true) true Try.f3.params.toList args.toList ds p := hA0
  rw [Try.params3] at hA hval
  obtain ⟨v0, vs0, d0, ds0, p0, q0, hargs, rfl, rfl, h0, r0⟩ := trodAll_cons hA
  obtain ⟨v1, vs1, d1, ds1, p1, q1, rfl, rfl, rfl, h1, r1⟩ := trodAll_cons r0
  obtain ⟨rfl, rfl, rfl⟩ := trodAll_nil r1
  obtain rfl : args = #[v0, v1] := by cases args; simp_all
  obtain ⟨rfl, rfl⟩ := trodVars_none hV
  obtain ⟨A0, c0, l0, rfl, hm0, hx0⟩ := open_points (hval 0 22 v0 rfl rfl) h0
  obtain ⟨x1, rfl⟩ := open_point (hval 1 25 v1 rfl rfl) h1
  clear hA0 hval0 hA
  unfold maxLen at hm0
  refine (pointsStays_walk A0 c0 l0 x1 W hx0 hm0.1).mono fun e W' ⟨he, hg⟩ => ?_
  subst he
  exact ⟨_, rfl, law_end laidOut (by kernel_rfl) (by kernel_rfl) Try.underlying4 rfl hW' ⟨rfl, rfl, rfl⟩ hg⟩

theorem pointsStays_holds : Rows.PointsStaysSaid :=
  OpenClaim.holds_of_wide 3 Try.f3 rfl rfl rfl rfl rfl rfl rfl ⟨rfl, rfl, rfl, rfl, rfl⟩ rfl rfl rfl rfl rfl (by kernel_rfl) Try.func3 (by kernel_rfl)
    (of_decide_eq_true (by kernel_rfl)) (by unfold Func.isWrapper; first | (rw [if_pos (by decide +kernel)]; kernel_rfl) | (rw [if_neg (by decide +kernel)]; exact ⟨rfl, rfl⟩))
    (fun os started H enc _ => pointsStays_lifted os started H enc)
#print axioms pointsStays_holds

end Go.Proofs.Ytinjdlplbficiaa
