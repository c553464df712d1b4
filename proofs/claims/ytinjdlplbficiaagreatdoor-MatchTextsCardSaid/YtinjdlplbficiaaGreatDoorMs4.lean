/-
  read: the matchers of a text, be they right or not.
  match.Parse: the matchers of a text.
-/
import Derived.Test.YtinjdlplbficiaaGreatDoorMs
import Derived.Test.YtinjdlplbficiaaGreatDoorGt
import Derived.Test.YtinjdlplbficiaaGreatDoorMn
namespace Go.Proofs.YtinjdlplbficiaaGreatDoor
set_option linter.unusedVariables false
set_option linter.unusedSimpArgs false
section
set_option linter.unusedVariables false
set_option linter.unusedSimpArgs false
open Go.RowKit
theorem pref_head (m : UInt8) (s : Bs) : prefB [m] s = decide (s.head? = some m) := by
  cases s with
  | nil => rfl
  | cons c r => rw [pref_one]; simp [eq_comm]
theorem rest_head (m : UInt8) (s : Bs) : restB [m] s = if s.head? = some m then s.tail else s := by
  unfold restB
  rw [pref_head]
  cases s with
  | nil => simp
  | cons c r => by_cases h : c = m <;> simp [h]
def scSize (w : World) (g : Nat) : Nat := match w.cell? ⟨g, 0, none⟩ with
  | some (.string s) => s.size
  | _ => 0
theorem ScIs.size {w : World} {B g : Nat} {s : ByteArray} {l : List Mt'} (h : ScIs w B g s l) : scSize w g = s.size := by
  obtain ⟨A, c, hg, _⟩ := h.box
  have c0 := cell_blk hg 0
  simp only [List.getElem?_toArray, List.getElem?_cons_zero, List.getElem?_cons_succ] at c0
  unfold scSize
  rw [c0]
/-- The contract of a step as read sees it: a mark. -/
theorem mark_sc (w : World) (B g : Nat) (s : ByteArray) (l : List Mt') (m : UInt8) (h : ScIs w B g s l) :
    Calls Tryz.prog 29 #[.pointer (some ⟨g, 0, none⟩), .string ⟨#[m]⟩] w (ScOut w B g (decide ((bl s).head? = some m)) s (mkB (bl s).tail) l l) := by
  obtain ⟨A, c, hg, ho⟩ := h.box
  refine (mark_any g s ⟨#[m]⟩ (.slice A l.length c) w hg).mono fun e w' ⟨he, hw⟩ => ?_
  rw [show bl ⟨#[m]⟩ = [m] from rfl] at he hw
  rw [pref_head] at he
  rw [rest_head] at hw
  subst hw
  refine ⟨he, ?_, below_set h.low 0 _⟩
  by_cases hh : (bl s).head? = some m
  · rw [decide_eq_true hh, if_pos hh]; exact h.text
  · rw [decide_eq_false hh, if_neg hh, mk_bl]; exact h.text
theorem step0_m {s : Bs} {l : List Mt'} (h : metricF s = true) : stepM 0 s l = .go 1 (s.drop (wordN s)) (l ++ [(1, bareName, mkB (s.take (wordN s)))]) := by unfold stepM; rw [if_pos ⟨rfl, h⟩]
theorem step0_o {s : Bs} {l : List Mt'} (h : metricF s = false) (h2 : s.head? = some 123) : stepM 0 s l = .go 2 s.tail l := by unfold stepM; rw [if_neg (by simp [h]), if_pos ⟨by omega, h2⟩]
theorem step0_b {s : Bs} {l : List Mt'} (h : metricF s = false) (h2 : ¬ s.head? = some 123) : stepM 0 s l = .bad := by unfold stepM; rw [if_neg (by simp [h]), if_neg (by simp [h2])]; simp
theorem step1_o {s : Bs} {l : List Mt'} (h2 : s.head? = some 123) : stepM 1 s l = .go 2 s.tail l := by unfold stepM; rw [if_neg (by simp), if_pos ⟨by omega, h2⟩]
theorem step1_d {l : List Mt'} : stepM 1 [] l = .done l := by unfold stepM; simp
theorem step1_b {s : Bs} {l : List Mt'} (h2 : ¬ s.head? = some 123) (h3 : s ≠ []) : stepM 1 s l = .bad := by unfold stepM; simp [h2, h3]
theorem step2_n {s : Bs} {l : List Mt'} (h : wordN s ≠ 0) : stepM 2 s l = .go 3 (s.drop (wordN s)) (l ++ [(0, mkB (s.take (wordN s)), noneB)]) := by unfold stepM; rw [if_neg (by simp), if_neg (by simp), if_pos ⟨rfl, h⟩]
theorem step2_c {s : Bs} {l : List Mt'} (h : ¬ wordN s ≠ 0) (h2 : s.head? = some 125) : stepM 2 s l = .go 6 s.tail l := by unfold stepM; simp at h; simp [h, h2]
theorem step2_b {s : Bs} {l : List Mt'} (h : ¬ wordN s ≠ 0) (h2 : ¬ s.head? = some 125) : stepM 2 s l = .bad := by unfold stepM; simp at h; simp [h, h2]
theorem step3_s {s : Bs} {l : List Mt'} (h : (signF s).isSome = true) : stepM 3 s l = .go 4 ((signF s).map (·.2)).get! (endK l (((signF s).map (·.1)).get! : Nat)) := by unfold stepM; rw [if_neg (by simp), if_neg (by simp), if_neg (by simp), if_pos ⟨rfl, h⟩]
theorem step3_b {s : Bs} {l : List Mt'} (h : (signF s).isSome = false) : stepM 3 s l = .bad := by unfold stepM; rw [if_neg (by simp), if_neg (by simp), if_neg (by simp), if_neg (by simp [h])]; simp
theorem step4_v {s : Bs} {l : List Mt'} (h : (unqP s).2.2 = 0) : stepM 4 s l = .go 5 (s.drop (unqP s).2.1) (endV l (mkB (unqP s).1)) := by unfold stepM; rw [if_neg (by simp), if_neg (by simp), if_neg (by simp), if_neg (by simp), if_pos ⟨rfl, h⟩]
theorem step4_b {s : Bs} {l : List Mt'} (h : ¬ (unqP s).2.2 = 0) : stepM 4 s l = .bad := by unfold stepM; simp [h]
theorem step5_c {s : Bs} {l : List Mt'} (h : s.head? = some 44) : stepM 5 s l = .go 2 s.tail l := by unfold stepM; simp [h]
theorem step5_e {s : Bs} {l : List Mt'} (h0 : ¬ s.head? = some 44) (h : s.head? = some 125) : stepM 5 s l = .go 6 s.tail l := by unfold stepM; simp [h]
theorem step5_b {s : Bs} {l : List Mt'} (h0 : ¬ s.head? = some 44) (h : ¬ s.head? = some 125) : stepM 5 s l = .bad := by unfold stepM; simp [h0, h]
theorem step6_d {l : List Mt'} : stepM 6 [] l = .done l := by unfold stepM; simp
theorem step6_b {s : Bs} {l : List Mt'} (h3 : s ≠ []) : stepM 6 s l = .bad := by unfold stepM; simp [h3]
theorem tail_sizeM {s : ByteArray} {m : UInt8} (h : (bl s).head? = some m) : (mkB (bl s).tail).size + 1 = s.size := by
  rw [mkB_size, List.length_tail, bl_len]
  have : 0 < s.size := by rw [← bl_len]; cases hh : bl s with | nil => rw [hh] at h; cases h | cons _ _ => simp
  omega
theorem drop_size (s : ByteArray) (n : Nat) : (mkB ((bl s).drop n)).size = s.size - n := by rw [mkB_size, List.length_drop, bl_len]
theorem endK_len {l : List Mt'} (h : l ≠ []) (k : Int) : (endK l k).length = l.length ∧ endK l k ≠ [] := by
  obtain ⟨d, m, rfl⟩ := last_split h
  rw [endK_app]; simp
theorem endV_len {l : List Mt'} (h : l ≠ []) (v : ByteArray) : (endV l v).length = l.length ∧ endV l v ≠ [] := by
  obtain ⟨d, m, rfl⟩ := last_split h
  rw [endV_app]; simp
theorem bl_empty {s : ByteArray} (h : bl s = []) : s = ⟨#[]⟩ := bl_inj (by rw [h]; rfl)
/-- What read still has to do. -/
structure RdIs (w : World) (s : ByteArray) (R : Option (List Mt')) (k : Nat) (wr : World) (rb : ByteArray) (acc : List Mt') : Prop where
  sc : ScIs wr w.heap.size w.heap.size rb acc
  below : RowKit.Below w.heap.size w wr
  rest : restM k (bl rb) acc = R
  fits : acc.length + rb.size ≤ s.size
  ne : 3 ≤ k → k ≤ 4 → acc ≠ []
theorem bare_size (rb : ByteArray) : (mkB (bareP (bl rb))).size ≤ rb.size := by rw [mkB_size]; have := bareP_le (bl rb); rw [bl_len] at this; exact this
section
set_option maxHeartbeats 6400000
set_option maxRecDepth 100000
theorem mread_any (s : ByteArray) (w : World) (hs : s.size ≤ 50000) : Calls Tryz.prog 12 #[.string s] w fun e w' =>
    (match readM (bl s) with
      | none => e = .returned (.tuple #[.slice none 0 0, .bool false])
      | some l => ∃ A c, e = .returned (.tuple #[.slice A l.length c, .bool true]) ∧ w'.ownsRow w.heap.size 37 3 (.slice A l.length c) l.length (mcells l) ∧ l.length ≤ s.size) ∧ RowKit.Below w.heap.size w w' := by
  obtain ⟨R, hR⟩ : ∃ R, readM (bl s) = R := ⟨_, rfl⟩
  rw [hR]
  have hR2 : restM 0 (bl s) [] = R := hR
  have HR := Lib.hid hR2
  clear hR hR2
  go_enter Tryz.func12, Tryz.ntmps12
  go_wp2
  go_step3
  go_wp2
  go_step3
  go_wp2
  go_loopw [5] (fun s5 wr => ∃ (k : Nat) (rb : ByteArray) (acc : List Mt'), s5 = .int .i64 k ∧ k ≤ 6 ∧ Aside (RdIs w s R k wr rb acc)) (fun _ wr => scSize wr w.heap.size)
  case atStart =>
    refine ⟨0, s, [], rfl, by omega, ⟨⟨Nat.le_refl _, none, 0, ?_, World.ownsRow_nil _ _ _ _⟩, (RowKit.Below.refl _ w).alloc (Nat.le_refl _) _, HR.out, by simp, fun h => by omega⟩⟩
    exact heap_alloc_new w _
  case round =>
    obtain ⟨k, rb, acc, rfl, hk, RI⟩ := hrel
    obtain ⟨A, c, hg, ho⟩ := RI.out.sc.box
    have c0 := cell_blk hg 0
    simp only [List.getElem?_toArray, List.getElem?_cons_zero, List.getElem?_cons_succ] at c0
    have f0 := free_blk hg 0
    have hbz := bare_size rb
    have hfit := RI.out.fits
    have hne := RI.out.ne
    have hrest := RI.out.rest
    rw [← rest_bare] at hrest
    have hsc := RI.out.sc.text (s' := mkB (bareP (bl rb)))
    have hbw := RI.out.below.trans (below_set (w := wr) (Nat.le_refl w.heap.size) 0 (.string (mkB (bareP (bl rb)))))
    have HTR := Lib.hid (fun W => mtrim_any rb W)
    have hbare : bareP (bl (mkB (bareP (bl rb)))) = bl (mkB (bareP (bl rb))) := by rw [bl_mk, bareP_bare]
    rw [show bareP (bl rb) = bl (mkB (bareP (bl rb))) by rw [bl_mk], rest_step, hbare] at hrest
    have HMZ := Lib.hid (show scSize wr w.heap.size = rb.size from RI.out.sc.size)
    generalize mkB (bareP (bl rb)) = r at hbz hsc hbw HTR hrest hbare
    generalize hw1 : wr.setCell ⟨w.heap.size, 0, none⟩ (.string r) = w1 at hsc hbw
    have HSC := Lib.hid hsc; have HBW := Lib.hid hbw; have HREST := Lib.hid hrest; have HW1 := Lib.hid hw1
    clear hsc hbw hrest hw1 hg ho hbare RI
    have h06 : k = 0 ∨ k = 1 ∨ k = 2 ∨ k = 3 ∨ k = 4 ∨ k = 5 ∨ k = 6 := by omega
    rcases h06 with rfl | rfl | rfl | rfl | rfl | rfl | rfl
    · have HM1 := Lib.hid (metric_any w1 _ _ r acc HSC.out HBW.out.size (by omega) (by omega))
      go_wp2_with fail
      refine (HTR.out _).mono ?_
      rintro e w2 ⟨rfl, rfl⟩
      go_wp2_with fail
      rw [HW1.out]
      refine HM1.out.mono ?_
      intro e v1 ho
      unfold ScOut at ho
      cases hm1 : metricF (bl r) with
      | true =>
        rw [hm1] at ho
        obtain ⟨rfl, hsc, hb⟩ := ho
        have hB := HBW.out.trans hb
        have hds := drop_size r (wordN (bl r))
        have hw0 : wordN (bl r) ≠ 0 := by have h := hm1; unfold metricF at h; simp at h; exact h.1
        have hwl := wordN_le (bl r)
        rw [bl_len] at hwl
        have hrd : RdIs w s R 1 v1 (mkB ((bl r).drop (wordN (bl r)))) (acc ++ [(1, bareName, mkB ((bl r).take (wordN (bl r))))]) := ⟨hsc, hB, by
          have h := HREST.out
          rw [step0_m hm1] at h
          simp only at h
          first | exact h | (rw [bl_mk]; exact h), by rw [List.length_append, List.length_singleton]; omega, by omega⟩
        have HRD := Lib.hid hrd
        have hlt : (mkB ((bl r).drop (wordN (bl r)))).size < rb.size := by omega
        clear hrd
        go_wp2_with fail
        go_roundw
        case rel => exact ⟨1, _, _, rfl, by omega, HRD.out⟩
        case measure => rw [HMZ.out, HRD.out.sc.size]; exact hlt
      | false =>
        rw [hm1] at ho
        obtain ⟨rfl, hsc, hb⟩ := ho
        have HSC1 := Lib.hid hsc; have HB1 := Lib.hid (HBW.out.trans hb)
        clear hsc hb
        have HM2 := Lib.hid (mark_sc v1 _ _ r acc 123 HSC1.out)
        go_wp2_with fail
        refine HM2.out.mono ?_
        intro e v2 ho
        unfold ScOut at ho
        cases hm2 : decide ((bl r).head? = some 123) with
        | true =>
          rw [hm2] at ho
          obtain ⟨rfl, hsc, hb⟩ := ho
          have hB := HB1.out.trans hb
          have ht := tail_sizeM (of_decide_eq_true hm2)
          have hrd : RdIs w s R 2 v2 (mkB (bl r).tail) (acc) := ⟨hsc, hB, by
            have h := HREST.out
            rw [step0_o hm1 (of_decide_eq_true hm2)] at h
            simp only at h
            first | exact h | (rw [bl_mk]; exact h), by omega, by omega⟩
          have HRD := Lib.hid hrd
          have hlt : (mkB (bl r).tail).size < rb.size := by omega
          clear hrd
          go_wp2_with fail
          go_roundw
          case rel => exact ⟨2, _, _, rfl, by omega, HRD.out⟩
          case measure => rw [HMZ.out, HRD.out.sc.size]; exact hlt
        | false =>
          rw [hm2] at ho
          obtain ⟨rfl, hsc, hb⟩ := ho
          have HSC2 := Lib.hid hsc; have HB2 := Lib.hid (HB1.out.trans hb)
          clear hsc hb
          have hrr : R = none := by
            have h := HREST.out
            rw [step0_b hm1 (of_decide_eq_false hm2)] at h
            exact h.symm
          subst hrr
          have HBL := Lib.hid (HB2.out)
          go_wp2
          first | go_ret2 | (rw [Exit.noGoto_ret]; go_ret2)
          exact ⟨rfl, HBL.out⟩
    · have HM1 := Lib.hid (mark_sc w1 _ _ r acc 123 HSC.out)
      go_wp2_with fail
      refine (HTR.out _).mono ?_
      rintro e w2 ⟨rfl, rfl⟩
      go_wp2_with fail
      rw [HW1.out]
      refine HM1.out.mono ?_
      intro e v1 ho
      unfold ScOut at ho
      cases hm1 : decide ((bl r).head? = some 123) with
      | true =>
        rw [hm1] at ho
        obtain ⟨rfl, hsc, hb⟩ := ho
        have hB := HBW.out.trans hb
        have ht := tail_sizeM (of_decide_eq_true hm1)
        have hrd : RdIs w s R 2 v1 (mkB (bl r).tail) (acc) := ⟨hsc, hB, by
          have h := HREST.out
          rw [step1_o (of_decide_eq_true hm1)] at h
          simp only at h
          first | exact h | (rw [bl_mk]; exact h), by omega, by omega⟩
        have HRD := Lib.hid hrd
        have hlt : (mkB (bl r).tail).size < rb.size := by omega
        clear hrd
        go_wp2_with fail
        go_roundw
        case rel => exact ⟨2, _, _, rfl, by omega, HRD.out⟩
        case measure => rw [HMZ.out, HRD.out.sc.size]; exact hlt
      | false =>
        rw [hm1] at ho
        obtain ⟨rfl, hsc, hb⟩ := ho
        have HSC1 := Lib.hid hsc; have HB1 := Lib.hid (HBW.out.trans hb)
        clear hsc hb
        obtain ⟨-, A9, c9, hg9, ho9⟩ := HSC1.out
        have e0 := cell_blk hg9 0; have e1 := cell_blk hg9 1
        simp only [List.getElem?_toArray, List.getElem?_cons_zero, List.getElem?_cons_succ] at e0 e1
        have HO9 := Lib.hid ho9; clear hg9 ho9
        by_cases hz : bl r = []
        · have hr0 := bl_empty hz
          have hrr : R = some acc := by
            have h := HREST.out
            rw [hz, step1_d] at h
            exact h.symm
          subst hrr
          subst hr0
          go_wp2
          first | go_ret2 | (rw [Exit.noGoto_ret]; go_ret2)
          exact ⟨⟨A9, c9, rfl, HO9.out, by omega⟩, HB1.out⟩
        · have hrr : R = none := by
            have h := HREST.out
            rw [step1_b (of_decide_eq_false hm1) hz] at h
            exact h.symm
          subst hrr
          have hq : r.toList.isEmpty = false := by rw [toList_bl]; cases hh : bl r with | nil => exact absurd hh hz | cons _ _ => rfl
          go_wp2
          first | go_ret2 | (rw [Exit.noGoto_ret]; go_ret2)
          exact ⟨rfl, HB1.out⟩
    · have HM1 := Lib.hid (name_any w1 _ _ r acc HSC.out HBW.out.size (by omega) (by omega))
      go_wp2_with fail
      refine (HTR.out _).mono ?_
      rintro e w2 ⟨rfl, rfl⟩
      go_wp2_with fail
      rw [HW1.out]
      refine HM1.out.mono ?_
      intro e v1 ho
      unfold ScOut at ho
      cases hm1 : decide (wordN (bl r) ≠ 0) with
      | true =>
        rw [hm1] at ho
        obtain ⟨rfl, hsc, hb⟩ := ho
        have hB := HBW.out.trans hb
        have hds := drop_size r (wordN (bl r))
        have hw0 := of_decide_eq_true hm1
        have hwl := wordN_le (bl r)
        rw [bl_len] at hwl
        have hrd : RdIs w s R 3 v1 (mkB ((bl r).drop (wordN (bl r)))) (acc ++ [(0, mkB ((bl r).take (wordN (bl r))), noneB)]) := ⟨hsc, hB, by
          have h := HREST.out
          rw [step2_n (of_decide_eq_true hm1)] at h
          simp only at h
          first | exact h | (rw [bl_mk]; exact h), by rw [List.length_append, List.length_singleton]; omega, by simp⟩
        have HRD := Lib.hid hrd
        have hlt : (mkB ((bl r).drop (wordN (bl r)))).size < rb.size := by omega
        clear hrd
        go_wp2_with fail
        go_roundw
        case rel => exact ⟨3, _, _, rfl, by omega, HRD.out⟩
        case measure => rw [HMZ.out, HRD.out.sc.size]; exact hlt
      | false =>
        rw [hm1] at ho
        obtain ⟨rfl, hsc, hb⟩ := ho
        have HSC1 := Lib.hid hsc; have HB1 := Lib.hid (HBW.out.trans hb)
        clear hsc hb
        have HM2 := Lib.hid (mark_sc v1 _ _ r acc 125 HSC1.out)
        go_wp2_with fail
        refine HM2.out.mono ?_
        intro e v2 ho
        unfold ScOut at ho
        cases hm2 : decide ((bl r).head? = some 125) with
        | true =>
          rw [hm2] at ho
          obtain ⟨rfl, hsc, hb⟩ := ho
          have hB := HB1.out.trans hb
          have ht := tail_sizeM (of_decide_eq_true hm2)
          have hrd : RdIs w s R 6 v2 (mkB (bl r).tail) (acc) := ⟨hsc, hB, by
            have h := HREST.out
            rw [step2_c (of_decide_eq_false hm1) (of_decide_eq_true hm2)] at h
            simp only at h
            first | exact h | (rw [bl_mk]; exact h), by omega, by omega⟩
          have HRD := Lib.hid hrd
          have hlt : (mkB (bl r).tail).size < rb.size := by omega
          clear hrd
          go_wp2_with fail
          go_roundw
          case rel => exact ⟨6, _, _, rfl, by omega, HRD.out⟩
          case measure => rw [HMZ.out, HRD.out.sc.size]; exact hlt
        | false =>
          rw [hm2] at ho
          obtain ⟨rfl, hsc, hb⟩ := ho
          have HSC2 := Lib.hid hsc; have HB2 := Lib.hid (HB1.out.trans hb)
          clear hsc hb
          have hrr : R = none := by
            have h := HREST.out
            rw [step2_b (of_decide_eq_false hm1) (of_decide_eq_false hm2)] at h
            exact h.symm
          subst hrr
          have HBL := Lib.hid (HB2.out)
          go_wp2
          first | go_ret2 | (rw [Exit.noGoto_ret]; go_ret2)
          exact ⟨rfl, HBL.out⟩
    · have HM1 := Lib.hid (ssign_any w1 _ _ r acc HSC.out (hne (by omega) (by omega)) (by omega))
      go_wp2_with fail
      refine (HTR.out _).mono ?_
      rintro e w2 ⟨rfl, rfl⟩
      go_wp2_with fail
      rw [HW1.out]
      refine HM1.out.mono ?_
      intro e v1 ho
      unfold ScOut at ho
      cases hm1 : (signF (bl r)).isSome with
      | true =>
        rw [hm1] at ho
        obtain ⟨rfl, hsc, hb⟩ := ho
        have hB := HBW.out.trans hb
        obtain ⟨q, hq⟩ := Option.isSome_iff_exists.1 hm1
        have hqs := sign_some (show signF (bl r) = some (q.1, q.2) from hq)
        rw [bl_len] at hqs
        have hel := endK_len (hne (by omega) (by omega)) (((signF (bl r)).map (·.1)).get! : Nat)
        have hds : (mkB ((signF (bl r)).map (·.2)).get!).size < r.size := by rw [hq, mkB_size]; exact hqs.1
        have hrd : RdIs w s R 4 v1 (mkB ((signF (bl r)).map (·.2)).get!) (endK acc (((signF (bl r)).map (·.1)).get! : Nat)) := ⟨hsc, hB, by
          have h := HREST.out
          rw [step3_s hm1] at h
          simp only at h
          first | exact h | (rw [bl_mk]; exact h), by rw [hel.1]; omega, by exact fun _ _ => hel.2⟩
        have HRD := Lib.hid hrd
        have hlt : (mkB ((signF (bl r)).map (·.2)).get!).size < rb.size := by omega
        clear hrd
        go_wp2_with fail
        go_roundw
        case rel => exact ⟨4, _, _, rfl, by omega, HRD.out⟩
        case measure => rw [HMZ.out, HRD.out.sc.size]; exact hlt
      | false =>
        rw [hm1] at ho
        obtain ⟨rfl, hsc, hb⟩ := ho
        have HSC1 := Lib.hid hsc; have HB1 := Lib.hid (HBW.out.trans hb)
        clear hsc hb
        have hrr : R = none := by
          have h := HREST.out
          rw [step3_b hm1] at h
          exact h.symm
        subst hrr
        have HBL := Lib.hid (HB1.out)
        go_wp2
        first | go_ret2 | (rw [Exit.noGoto_ret]; go_ret2)
        exact ⟨rfl, HBL.out⟩
    · have HM1 := Lib.hid (svalue_any w1 _ _ r acc HSC.out HBW.out.size (by omega) (hne (by omega) (by omega)) (by omega))
      go_wp2_with fail
      refine (HTR.out _).mono ?_
      rintro e w2 ⟨rfl, rfl⟩
      go_wp2_with fail
      rw [HW1.out]
      refine HM1.out.mono ?_
      intro e v1 ho
      unfold ScOut at ho
      cases hm1 : decide ((unqP (bl r)).2.2 = 0) with
      | true =>
        rw [hm1] at ho
        obtain ⟨rfl, hsc, hb⟩ := ho
        have hB := HBW.out.trans hb
        have hul := unqP_le (of_decide_eq_true hm1)
        rw [bl_len] at hul
        have hds := drop_size r (unqP (bl r)).2.1
        have hel := endV_len (hne (by omega) (by omega)) (mkB (unqP (bl r)).1)
        have hrd : RdIs w s R 5 v1 (mkB ((bl r).drop (unqP (bl r)).2.1)) (endV acc (mkB (unqP (bl r)).1)) := ⟨hsc, hB, by
          have h := HREST.out
          rw [step4_v (of_decide_eq_true hm1)] at h
          simp only at h
          first | exact h | (rw [bl_mk]; exact h), by rw [hel.1]; omega, by omega⟩
        have HRD := Lib.hid hrd
        have hlt : (mkB ((bl r).drop (unqP (bl r)).2.1)).size < rb.size := by omega
        clear hrd
        go_wp2_with fail
        go_roundw
        case rel => exact ⟨5, _, _, rfl, by omega, HRD.out⟩
        case measure => rw [HMZ.out, HRD.out.sc.size]; exact hlt
      | false =>
        rw [hm1] at ho
        obtain ⟨rfl, hsc, hb⟩ := ho
        have HSC1 := Lib.hid hsc; have HB1 := Lib.hid (HBW.out.trans hb)
        clear hsc hb
        have hrr : R = none := by
          have h := HREST.out
          rw [step4_b (of_decide_eq_false hm1)] at h
          exact h.symm
        subst hrr
        have HBL := Lib.hid (HB1.out)
        go_wp2
        first | go_ret2 | (rw [Exit.noGoto_ret]; go_ret2)
        exact ⟨rfl, HBL.out⟩
    · have HM1 := Lib.hid (mark_sc w1 _ _ r acc 44 HSC.out)
      go_wp2_with fail
      refine (HTR.out _).mono ?_
      rintro e w2 ⟨rfl, rfl⟩
      go_wp2_with fail
      rw [HW1.out]
      refine HM1.out.mono ?_
      intro e v1 ho
      unfold ScOut at ho
      cases hm1 : decide ((bl r).head? = some 44) with
      | true =>
        rw [hm1] at ho
        obtain ⟨rfl, hsc, hb⟩ := ho
        have hB := HBW.out.trans hb
        have ht := tail_sizeM (of_decide_eq_true hm1)
        have hrd : RdIs w s R 2 v1 (mkB (bl r).tail) (acc) := ⟨hsc, hB, by
          have h := HREST.out
          rw [step5_c (of_decide_eq_true hm1)] at h
          simp only at h
          first | exact h | (rw [bl_mk]; exact h), by omega, by omega⟩
        have HRD := Lib.hid hrd
        have hlt : (mkB (bl r).tail).size < rb.size := by omega
        clear hrd
        go_wp2_with fail
        go_roundw
        case rel => exact ⟨2, _, _, rfl, by omega, HRD.out⟩
        case measure => rw [HMZ.out, HRD.out.sc.size]; exact hlt
      | false =>
        rw [hm1] at ho
        obtain ⟨rfl, hsc, hb⟩ := ho
        have HSC1 := Lib.hid hsc; have HB1 := Lib.hid (HBW.out.trans hb)
        clear hsc hb
        have HM2 := Lib.hid (mark_sc v1 _ _ r acc 125 HSC1.out)
        go_wp2_with fail
        refine HM2.out.mono ?_
        intro e v2 ho
        unfold ScOut at ho
        cases hm2 : decide ((bl r).head? = some 125) with
        | true =>
          rw [hm2] at ho
          obtain ⟨rfl, hsc, hb⟩ := ho
          have hB := HB1.out.trans hb
          have ht := tail_sizeM (of_decide_eq_true hm2)
          have hrd : RdIs w s R 6 v2 (mkB (bl r).tail) (acc) := ⟨hsc, hB, by
            have h := HREST.out
            rw [step5_e (of_decide_eq_false hm1) (of_decide_eq_true hm2)] at h
            simp only at h
            first | exact h | (rw [bl_mk]; exact h), by omega, by omega⟩
          have HRD := Lib.hid hrd
          have hlt : (mkB (bl r).tail).size < rb.size := by omega
          clear hrd
          go_wp2_with fail
          go_roundw
          case rel => exact ⟨6, _, _, rfl, by omega, HRD.out⟩
          case measure => rw [HMZ.out, HRD.out.sc.size]; exact hlt
        | false =>
          rw [hm2] at ho
          obtain ⟨rfl, hsc, hb⟩ := ho
          have HSC2 := Lib.hid hsc; have HB2 := Lib.hid (HB1.out.trans hb)
          clear hsc hb
          have hrr : R = none := by
            have h := HREST.out
            rw [step5_b (of_decide_eq_false hm1) (of_decide_eq_false hm2)] at h
            exact h.symm
          subst hrr
          have HBL := Lib.hid (HB2.out)
          go_wp2
          first | go_ret2 | (rw [Exit.noGoto_ret]; go_ret2)
          exact ⟨rfl, HBL.out⟩
    · go_wp2_with fail
      refine (HTR.out _).mono ?_
      rintro e w2 ⟨rfl, rfl⟩
      obtain ⟨-, A9, c9, hg9, ho9⟩ := HSC.out
      have e0 := cell_blk hg9 0; have e1 := cell_blk hg9 1
      simp only [List.getElem?_toArray, List.getElem?_cons_zero, List.getElem?_cons_succ] at e0 e1
      have HO9 := Lib.hid ho9; clear hg9 ho9
      rw [← HW1.out] at e0 e1
      by_cases hz : bl r = []
      · have hr0 := bl_empty hz
        have hrr : R = some acc := by
          have h := HREST.out
          rw [hz, step6_d] at h
          exact h.symm
        subst hrr
        subst hr0
        go_wp2
        first | go_ret2 | (rw [Exit.noGoto_ret]; go_ret2)
        rw [HW1.out]
        exact ⟨⟨A9, c9, rfl, HO9.out, by omega⟩, HBW.out⟩
      · have hrr : R = none := by
          have h := HREST.out
          rw [step6_b  hz] at h
          exact h.symm
        subst hrr
        have hq : r.toList.isEmpty = false := by rw [toList_bl]; cases hh : bl r with | nil => exact absurd hh hz | cons _ _ => rfl
        go_wp2
        first | go_ret2 | (rw [Exit.noGoto_ret]; go_ret2)
        rw [HW1.out]
        exact ⟨rfl, HBW.out⟩
end
end
section
set_option linter.unusedVariables false
set_option linter.unusedSimpArgs false
open Go.RowKit
section
set_option maxHeartbeats 3200000
set_option maxRecDepth 100000
theorem mparse_any (s : ByteArray) (w : World) (hT : Tabs w) (hs : s.size ≤ 50000) : Calls Tryz.prog 6 #[.string s] w fun e w' =>
    ∃ A c, e = .returned (.tuple #[.slice A (parseM (bl s)).2.length c, .int .i64 ((parseM (bl s)).1 : Nat)]) ∧ w'.ownsRow w.heap.size 37 3 (.slice A (parseM (bl s)).2.length c) (parseM (bl s)).2.length (mcells (parseM (bl s)).2) ∧ RowKit.Below w.heap.size w w' := by
  obtain ⟨R, hR⟩ : ∃ R, parseM (bl s) = R := ⟨_, rfl⟩
  rw [hR]
  unfold parseM at hR
  have hrd := mread_any s w hs
  have hvals := fun l (h : readM (bl s) = some l) => read_vals h
  generalize readM (bl s) = Q at hrd hR hvals
  have HRD := Lib.hid hrd; have HT := Lib.hid hT; have HR := Lib.hid hR; have HV := Lib.hid hvals
  clear hrd hT hR hvals
  go_enter Tryz.func6, Tryz.ntmps6
  go_wp2_with fail
  refine HRD.out.mono ?_
  intro e w1 ho
  cases Q with
  | none =>
    obtain ⟨h1, hb⟩ := ho
    simp only at h1
    subst h1
    have hr := HR.out
    simp only at hr
    subst hr
    have HB := Lib.hid hb; clear hb
    go_wp2
    go_ret2
    exact ⟨none, 0, rfl, World.ownsRow_nil _ _ _ _, HB.out⟩
  | some l =>
    obtain ⟨⟨A, c, rfl, ho, hll⟩, hb⟩ := ho
    obtain ⟨A', c', e', hr, hc1, hc2⟩ := own_rd_mt ho
    injection e' with e1 _ e2
    subst e1; subst e2
    have HRI := Lib.hid (mright_any A c l w1 hr (HT.out.below hb) (by omega) (fun m hm => by have := HV.out l rfl m hm; rw [bl_len] at this; omega))
    have hR2 := HR.out
    simp only at hR2
    have HR2 := Lib.hid hR2
    clear hR2
    generalize rightM l = C at HRI HR2
    have HB := Lib.hid hb; have HO := Lib.hid ho
    clear hb ho hr HR HV
    go_wp2_with fail
    refine HRI.out.mono ?_
    rintro e w2 ⟨rfl, hb2⟩
    have HB2 := Lib.hid (HB.out.trans (hb2.mono HB.out.size))
    have HO2 := Lib.hid (own_below_mt HO.out hb2)
    clear hb2
    by_cases hc : C = 0
    · have h := HR2.out
      rw [if_neg (by simp [hc])] at h
      subst hc; subst h
      go_wp2
      go_ret2
      exact ⟨A, c, rfl, HO2.out, HB2.out⟩
    · have h := HR2.out
      rw [if_pos hc] at h
      subst h
      have hc2 : ¬ ((C : Nat) : Int) = 0 := by omega
      go_wp2
      go_ret2
      exact ⟨none, 0, rfl, World.ownsRow_nil _ _ _ _, HB2.out⟩
end
end
end Go.Proofs.YtinjdlplbficiaaGreatDoor
