/-
  The points of some times, of writes up to one, of a window: the plain answers' own.
-/
import Derived.Test.YtfohmepjedehfabPt7
namespace Go.Proofs.Ytfohmepjedehfab
set_option linter.unusedVariables false
set_option linter.unusedSimpArgs false
open Go.RowKit
theorem rd_row2 (w : World) (o : Obj) (cs : List Value) (t : TypeId) : Rd ((w.alloc o).alloc (.cells cs.toArray t)) (some ⟨w.heap.size + 1, 0, none⟩) cs := by
  have := rd_row (w.alloc o) cs t
  rwa [World.size_alloc] at this
section
set_option maxHeartbeats 1600000
set_option maxRecDepth 100000
theorem rrange_any (A : Option Addr) (c : Nat) (l : List Pt) (lo hi : Int) (w : World) (hx : Rd w A (pcells l)) (hl : l.length ≤ 2000) :
    Calls Try.prog 17 #[.slice A l.length c, .int .i64 lo, .int .i64 hi] w fun e w' => ∃ A' c', e = .returned (.slice A' (l.filter (rangeB lo hi)).length c') ∧ w'.ownsRow w.heap.size 25 3 (.slice A' (l.filter (rangeB lo hi)).length c') (l.filter (rangeB lo hi)).length (pcells (l.filter (rangeB lo hi))) ∧ RowKit.Below w.heap.size w w' := by
  obtain ⟨R, hR⟩ : ∃ R, R = l.filter (rangeB lo hi) := ⟨_, rfl⟩
  rw [← hR]
  have hst : R = [] ++ (l.drop 0).filter (rangeB lo hi) := by rw [hR]; simp
  have HST := Lib.hid hst; have HX := Lib.hid hx
  have HO0 := Lib.hid (own_empty_pt w); have HB0 := Lib.hid ((RowKit.Below.refl w.heap.size w).alloc (Nat.le_refl _) (.cells #[] 25))
  clear hst hR hx
  go_enter Try.func17, Try.ntmps17
  go_wp2
  go_loopw [13, 7] (fun s13 s7 wr => ∃ (k : Nat) (acc : List Pt), s13 = .int .i64 k ∧ k ≤ l.length ∧ acc.length ≤ k ∧ Aside (wr.ownsRow w.heap.size 25 3 s7 acc.length (pcells acc)) ∧ Aside (RowKit.Below w.heap.size w wr) ∧ Aside (R = acc ++ (l.drop k).filter (rangeB lo hi))) (fun s13 _ _ => l.length - (intOf s13).toNat)
  case atStart => exact ⟨0, [], rfl, by omega, by simp, HO0.out, HB0.out, HST.out⟩
  case round =>
    obtain ⟨k, acc, rfl, hk, hacc, OW, BW, E⟩ := hrel
    obtain ⟨A6, c6, hv6, -, -, -⟩ := own_rd_pt OW.out
    subst hv6
    have k0 : (0 : Int) ≤ (k : Int) := by omega
    by_cases hlt : k < l.length
    · have k1 : (k : Int) < (l.length : Int) := by omega
      obtain ⟨b, off, rfl, c0, c1, c2⟩ := pt_at (HX.out.below BW.out) hlt
      have hE := E.out
      rw [List.drop_eq_getElem_cons hlt, List.filter_cons] at hE
      clear E
      generalize l[k] = x at c0 c1 c2 hE
      have HO := Lib.hid (own_below_pt OW.out ((RowKit.Below.refl _ wr).alloc (Nat.le_refl _) (.cells (boxPt x) 25)))
      have HBW := Lib.hid (BW.out.alloc BW.out.size (.cells (boxPt x) 25))
      have hsz : w.heap.size ≤ wr.heap.size := BW.out.size
      clear OW BW
      obtain ⟨x1, x2, x3⟩ := x
      unfold boxPt at HO HBW
      simp only at c0 c1 c2 HO HBW
      by_cases h1 : lo ≤ x1
      · by_cases h2 : x1 ≤ hi
        · have HT : rangeB lo hi (x1, x2, x3) = true := by simp [rangeB, h1, h2]
          have hE2 : R = (acc ++ [(x1, x2, x3)]) ++ (l.drop (k + 1)).filter (rangeB lo hi) := by rw [hE, if_pos HT]; simp
          have HE := Lib.hid hE2; clear hE hE2 HT
          go_wp2_with (first
            | (at_builtin; go_must (refine wpList_append_pt rfl _ _ rfl rfl w.heap.size _ acc rfl (HO.out.alloc _) _ 1 [(x1, x2, x3)] rfl (rd_row2 wr _ [.int .i64 x1, .int .u64 x2, .int .u64 x3] 25) (by simp; omega) (by simp; omega) ?_; intro v3 w3 own3 grow3))
            | fail)
          have hb3 : RowKit.Below w.heap.size w w3 := (HBW.out.alloc HBW.out.size _).grown grow3 (by simp; omega) (fun k h => (HO.out.lt k h).1)
          have HB3 := Lib.hid hb3; have HO3 := Lib.hid own3; clear hb3 own3 grow3
          go_roundw
          case rel => exact ⟨k + 1, acc ++ [(x1, x2, x3)], by go_num, by omega, by simp; omega, (show Aside _ from HO3.out), (show Aside _ from HB3.out), (show Aside _ from HE.out)⟩
          case measure => simp [intOf]; omega
        · have HT : rangeB lo hi (x1, x2, x3) = false := by simp only [rangeB]; simp; omega
          have hE2 : R = acc ++ (l.drop (k + 1)).filter (rangeB lo hi) := by rw [hE, if_neg (by rw [HT]; simp)]
          have HE := Lib.hid hE2; clear hE hE2 HT
          go_wp2_with fail
          go_roundw
          case rel => exact ⟨k + 1, acc, by go_num, by omega, by omega, (show Aside _ from HO.out), (show Aside _ from HBW.out), (show Aside _ from HE.out)⟩
          case measure => simp [intOf]; omega
      · have HT : rangeB lo hi (x1, x2, x3) = false := by simp only [rangeB]; simp; omega
        have hE2 : R = acc ++ (l.drop (k + 1)).filter (rangeB lo hi) := by rw [hE, if_neg (by rw [HT]; simp)]
        have HE := Lib.hid hE2; clear hE hE2 HT
        go_wp2_with fail
        go_roundw
        case rel => exact ⟨k + 1, acc, by go_num, by omega, by omega, (show Aside _ from HO.out), (show Aside _ from HBW.out), (show Aside _ from HE.out)⟩
        case measure => simp [intOf]; omega
    · obtain rfl : k = l.length := by omega
      have hE := E.out
      rw [List.drop_length, List.filter_nil, List.append_nil] at hE
      have HE := Lib.hid hE; have HO := Lib.hid OW.out; have HB := Lib.hid BW.out; clear hE E OW BW
      go_wp2
      go_ret
      exact ⟨A6, c6, by rw [HE.out]; rfl, by rw [HE.out]; exact HO.out, HB.out⟩
theorem rupto_any (A : Option Addr) (c : Nat) (l : List Pt) (seq : Int) (w : World) (hx : Rd w A (pcells l)) (hl : l.length ≤ 2000) :
    Calls Try.prog 19 #[.slice A l.length c, .int .u64 seq] w fun e w' => ∃ A' c', e = .returned (.slice A' (l.filter (uptoB seq)).length c') ∧ w'.ownsRow w.heap.size 25 3 (.slice A' (l.filter (uptoB seq)).length c') (l.filter (uptoB seq)).length (pcells (l.filter (uptoB seq))) ∧ RowKit.Below w.heap.size w w' := by
  obtain ⟨R, hR⟩ : ∃ R, R = l.filter (uptoB seq) := ⟨_, rfl⟩
  rw [← hR]
  have hst : R = [] ++ (l.drop 0).filter (uptoB seq) := by rw [hR]; simp
  have HST := Lib.hid hst; have HX := Lib.hid hx
  have HO0 := Lib.hid (own_empty_pt w); have HB0 := Lib.hid ((RowKit.Below.refl w.heap.size w).alloc (Nat.le_refl _) (.cells #[] 25))
  clear hst hR hx
  go_enter Try.func19, Try.ntmps19
  go_wp2
  go_loopw [11, 5] (fun s11 s5 wr => ∃ (k : Nat) (acc : List Pt), s11 = .int .i64 k ∧ k ≤ l.length ∧ acc.length ≤ k ∧ Aside (wr.ownsRow w.heap.size 25 3 s5 acc.length (pcells acc)) ∧ Aside (RowKit.Below w.heap.size w wr) ∧ Aside (R = acc ++ (l.drop k).filter (uptoB seq))) (fun s11 _ _ => l.length - (intOf s11).toNat)
  case atStart => exact ⟨0, [], rfl, by omega, by simp, HO0.out, HB0.out, HST.out⟩
  case round =>
    obtain ⟨k, acc, rfl, hk, hacc, OW, BW, E⟩ := hrel
    obtain ⟨A6, c6, hv6, -, -, -⟩ := own_rd_pt OW.out
    subst hv6
    have k0 : (0 : Int) ≤ (k : Int) := by omega
    by_cases hlt : k < l.length
    · have k1 : (k : Int) < (l.length : Int) := by omega
      obtain ⟨b, off, rfl, c0, c1, c2⟩ := pt_at (HX.out.below BW.out) hlt
      have hE := E.out
      rw [List.drop_eq_getElem_cons hlt, List.filter_cons] at hE
      clear E
      generalize l[k] = x at c0 c1 c2 hE
      have HO := Lib.hid (own_below_pt OW.out ((RowKit.Below.refl _ wr).alloc (Nat.le_refl _) (.cells (boxPt x) 25)))
      have HBW := Lib.hid (BW.out.alloc BW.out.size (.cells (boxPt x) 25))
      have hsz : w.heap.size ≤ wr.heap.size := BW.out.size
      clear OW BW
      obtain ⟨x1, x2, x3⟩ := x
      unfold boxPt at HO HBW
      simp only at c0 c1 c2 HO HBW
      by_cases h1 : x3 ≤ seq
      · have HT : uptoB seq (x1, x2, x3) = true := by simp [uptoB, h1]
        have hE2 : R = (acc ++ [(x1, x2, x3)]) ++ (l.drop (k + 1)).filter (uptoB seq) := by rw [hE, if_pos HT]; simp
        have HE := Lib.hid hE2; clear hE hE2 HT
        go_wp2_with (first
          | (at_builtin; go_must (refine wpList_append_pt rfl _ _ rfl rfl w.heap.size _ acc rfl (HO.out.alloc _) _ 1 [(x1, x2, x3)] rfl (rd_row2 wr _ [.int .i64 x1, .int .u64 x2, .int .u64 x3] 25) (by simp; omega) (by simp; omega) ?_; intro v3 w3 own3 grow3))
          | fail)
        have hb3 : RowKit.Below w.heap.size w w3 := (HBW.out.alloc HBW.out.size _).grown grow3 (by simp; omega) (fun k h => (HO.out.lt k h).1)
        have HB3 := Lib.hid hb3; have HO3 := Lib.hid own3; clear hb3 own3 grow3
        go_roundw
        case rel => exact ⟨k + 1, acc ++ [(x1, x2, x3)], by go_num, by omega, by simp; omega, (show Aside _ from HO3.out), (show Aside _ from HB3.out), (show Aside _ from HE.out)⟩
        case measure => simp [intOf]; omega
      · have HT : uptoB seq (x1, x2, x3) = false := by simp only [uptoB]; simp; omega
        have hE2 : R = acc ++ (l.drop (k + 1)).filter (uptoB seq) := by rw [hE, if_neg (by rw [HT]; simp)]
        have HE := Lib.hid hE2; clear hE hE2 HT
        go_wp2_with fail
        go_roundw
        case rel => exact ⟨k + 1, acc, by go_num, by omega, by omega, (show Aside _ from HO.out), (show Aside _ from HBW.out), (show Aside _ from HE.out)⟩
        case measure => simp [intOf]; omega
    · obtain rfl : k = l.length := by omega
      have hE := E.out
      rw [List.drop_length, List.filter_nil, List.append_nil] at hE
      have HE := Lib.hid hE; have HO := Lib.hid OW.out; have HB := Lib.hid BW.out; clear hE E OW BW
      go_wp2
      go_ret
      exact ⟨A6, c6, by rw [HE.out]; rfl, by rw [HE.out]; exact HO.out, HB.out⟩
theorem rwin_any (A : Option Addr) (c : Nat) (l : List Pt) (t width : Int) (w : World) (hx : Rd w A (pcells l)) (hl : l.length ≤ 2000) :
    Calls Try.prog 21 #[.slice A l.length c, .int .i64 t, .int .u64 width] w fun e w' => ∃ A' c', e = .returned (.slice A' (l.filter (nearB t width)).length c') ∧ w'.ownsRow w.heap.size 25 3 (.slice A' (l.filter (nearB t width)).length c') (l.filter (nearB t width)).length (pcells (l.filter (nearB t width))) ∧ RowKit.Below w.heap.size w w' := by
  obtain ⟨R, hR⟩ : ∃ R, R = l.filter (nearB t width) := ⟨_, rfl⟩
  rw [← hR]
  have hst : R = [] ++ (l.drop 0).filter (nearB t width) := by rw [hR]; simp
  have HST := Lib.hid hst; have HX := Lib.hid hx
  have HO0 := Lib.hid (own_empty_pt w); have HB0 := Lib.hid ((RowKit.Below.refl w.heap.size w).alloc (Nat.le_refl _) (.cells #[] 25))
  clear hst hR hx
  go_enter Try.func21, Try.ntmps21
  go_wp2
  go_loopw [13, 7] (fun s13 s7 wr => ∃ (k : Nat) (acc : List Pt), s13 = .int .i64 k ∧ k ≤ l.length ∧ acc.length ≤ k ∧ Aside (wr.ownsRow w.heap.size 25 3 s7 acc.length (pcells acc)) ∧ Aside (RowKit.Below w.heap.size w wr) ∧ Aside (R = acc ++ (l.drop k).filter (nearB t width))) (fun s13 _ _ => l.length - (intOf s13).toNat)
  case atStart => exact ⟨0, [], rfl, by omega, by simp, HO0.out, HB0.out, HST.out⟩
  case round =>
    obtain ⟨k, acc, rfl, hk, hacc, OW, BW, E⟩ := hrel
    obtain ⟨A6, c6, hv6, -, -, -⟩ := own_rd_pt OW.out
    subst hv6
    have k0 : (0 : Int) ≤ (k : Int) := by omega
    by_cases hlt : k < l.length
    · have k1 : (k : Int) < (l.length : Int) := by omega
      obtain ⟨b, off, rfl, c0, c1, c2⟩ := pt_at (HX.out.below BW.out) hlt
      have hE := E.out
      rw [List.drop_eq_getElem_cons hlt, List.filter_cons] at hE
      clear E
      generalize l[k] = x at c0 c1 c2 hE
      have HO := Lib.hid (own_below_pt OW.out ((RowKit.Below.refl _ wr).alloc (Nat.le_refl _) (.cells (boxPt x) 25)))
      have HBW := Lib.hid (BW.out.alloc BW.out.size (.cells (boxPt x) 25))
      have hsz : w.heap.size ≤ wr.heap.size := BW.out.size
      clear OW BW
      obtain ⟨x1, x2, x3⟩ := x
      unfold boxPt at HO HBW
      simp only at c0 c1 c2 HO HBW
      by_cases h1 : x1 ≤ t
      · by_cases h2 : IntKind.u64.wrap (IntKind.u64.wrap t - IntKind.u64.wrap x1) < width
        · have HT : nearB t width (x1, x2, x3) = true := by unfold nearB; simp only; rw [decide_eq_true h1, decide_eq_true h2]; rfl
          have hE2 : R = (acc ++ [(x1, x2, x3)]) ++ (l.drop (k + 1)).filter (nearB t width) := by rw [hE, if_pos HT]; simp
          have HE := Lib.hid hE2; clear hE hE2 HT
          go_wp2_with (first
            | (at_builtin; go_must (refine wpList_append_pt rfl _ _ rfl rfl w.heap.size _ acc rfl (HO.out.alloc _) _ 1 [(x1, x2, x3)] rfl (rd_row2 wr _ [.int .i64 x1, .int .u64 x2, .int .u64 x3] 25) (by simp; omega) (by simp; omega) ?_; intro v3 w3 own3 grow3))
            | fail)
          have hb3 : RowKit.Below w.heap.size w w3 := (HBW.out.alloc HBW.out.size _).grown grow3 (by simp; omega) (fun k h => (HO.out.lt k h).1)
          have HB3 := Lib.hid hb3; have HO3 := Lib.hid own3; clear hb3 own3 grow3
          go_roundw
          case rel => exact ⟨k + 1, acc ++ [(x1, x2, x3)], by go_num, by omega, by simp; omega, (show Aside _ from HO3.out), (show Aside _ from HB3.out), (show Aside _ from HE.out)⟩
          case measure => simp [intOf]; omega
        · have HT : nearB t width (x1, x2, x3) = false := by unfold nearB; simp only; rw [decide_eq_false h2, Bool.and_false]
          have hE2 : R = acc ++ (l.drop (k + 1)).filter (nearB t width) := by rw [hE, if_neg (by rw [HT]; simp)]
          have HE := Lib.hid hE2; clear hE hE2 HT
          go_wp2_with fail
          go_roundw
          case rel => exact ⟨k + 1, acc, by go_num, by omega, by omega, (show Aside _ from HO.out), (show Aside _ from HBW.out), (show Aside _ from HE.out)⟩
          case measure => simp [intOf]; omega
      · have HT : nearB t width (x1, x2, x3) = false := by unfold nearB; simp only; rw [decide_eq_false h1, Bool.false_and]
        have hE2 : R = acc ++ (l.drop (k + 1)).filter (nearB t width) := by rw [hE, if_neg (by rw [HT]; simp)]
        have HE := Lib.hid hE2; clear hE hE2 HT
        go_wp2_with fail
        go_roundw
        case rel => exact ⟨k + 1, acc, by go_num, by omega, by omega, (show Aside _ from HO.out), (show Aside _ from HBW.out), (show Aside _ from HE.out)⟩
        case measure => simp [intOf]; omega
    · obtain rfl : k = l.length := by omega
      have hE := E.out
      rw [List.drop_length, List.filter_nil, List.append_nil] at hE
      have HE := Lib.hid hE; have HO := Lib.hid OW.out; have HB := Lib.hid BW.out; clear hE E OW BW
      go_wp2
      go_ret
      exact ⟨A6, c6, by rw [HE.out]; rfl, by rw [HE.out]; exact HO.out, HB.out⟩
end
end Go.Proofs.Ytfohmepjedehfab
