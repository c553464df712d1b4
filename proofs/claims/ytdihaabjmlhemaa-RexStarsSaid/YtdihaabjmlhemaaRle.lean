/-
  Two patterns that may stand in groups; what groups beside one another, with a bar between, with a sign behind, match.
-/
import Derived.Test.YtdihaabjmlhemaaRl6
import Derived.Test.YtdihaabjmlhemaaPza
import Derived.Test.YtdihaabjmlhemaaRlp
namespace Go.Proofs.Ytdihaabjmlhemaa
set_option linter.unusedVariables false
set_option linter.unusedSimpArgs false
open Go.RowKit
def mB (t : Re) (w : List Int) : Bool := matchP (compP t []).1 (compP t []).2 w
theorem mB_iff (t : Re) (w : List Int) : mB t w = true ↔ Mt t w := match_iff t w
theorem mt_none {u : Re} {w : List Int} : Mt (.cat .none u) w ↔ Mt u w := by
  constructor
  · rintro ⟨a, b, rfl, rfl, h⟩; exact h
  · intro h; exact ⟨[], w, rfl, rfl, h⟩
theorem mB_either (a b : Re) (w : List Int) : mB (.alt (.cat .none a) (.cat .none b)) w = (mB a w || mB b w) := by
  rw [Bool.eq_iff_iff, Bool.or_eq_true, mB_iff, mB_iff, mB_iff]
  show Mt (.cat .none a) w ∨ Mt (.cat .none b) w ↔ _
  rw [mt_none, mt_none]
theorem mB_both {a b : Re} {u v : List Int} (h : mB a u = true) (k : mB b v = true) : mB (.cat (.cat .none a) b) (u ++ v) = true := by
  rw [mB_iff] at *
  exact ⟨u, v, rfl, mt_none.mpr h, k⟩
theorem mB_times (u : Re) (w : List Int) : mB (.cat .none u) w = mB u w := by rw [Bool.eq_iff_iff, mB_iff, mB_iff, mt_none]
theorem mB_star_nil (a : Re) : mB (.star a) [] = true := (mB_iff _ _).mpr .nil
theorem mB_plus_nil (a : Re) : mB (.plus a) [] = mB a [] := by
  rw [Bool.eq_iff_iff, mB_iff, mB_iff]
  constructor
  · rintro ⟨u, v, e, h, _⟩
    have : u = [] := (List.append_eq_nil_iff.mp e.symm).1
    subst this; exact h
  · intro h; exact ⟨[], [], rfl, h, .nil⟩
theorem mB_may (a : Re) (w : List Int) : mB (.may a) w = (decide (w = []) || mB a w) := by
  rw [Bool.eq_iff_iff, Bool.or_eq_true, mB_iff, mB_iff, decide_eq_true_iff]; rfl
theorem mB_star (a : Re) (w : List Int) : mB (.star a) w = (decide (w = []) || mB (.plus a) w) := by
  rw [Bool.eq_iff_iff, Bool.or_eq_true, mB_iff, mB_iff, decide_eq_true_iff]
  constructor
  · intro h
    rcases Star.first h with h | ⟨u, v, e, h1, h2⟩
    · exact .inl h
    · exact .inr ⟨u, v, e, h1, h2⟩
  · rintro (rfl | ⟨u, v, rfl, h1, h2⟩)
    · exact .nil
    · exact .cons h1 h2
theorem mB_star_one {a : Re} {w : List Int} (h : mB a w = true) : mB (.star a) w = true := (mB_iff _ _).mpr (Star.one ((mB_iff _ _).mp h))
theorem mB_star_two {a : Re} {u v : List Int} (h : mB (.star a) u = true) (k : mB (.star a) v = true) : mB (.star a) (u ++ v) = true := (mB_iff _ _).mpr (Star.app ((mB_iff _ _).mp h) ((mB_iff _ _).mp k))
theorem runes_app {s t : Bs} (hs : Lib.validD s = true) : runesB (s ++ t) = runesB s ++ runesB t := by
  conv => lhs; rw [← encs_runes s hs]
  exact runes_encs _ (runes_okRune s) t
theorem runes_empty (s : ByteArray) : decide (runesB (bl s) = []) = (s.toList == []) := by
  rw [toList_bl]
  by_cases h : bl s = []
  · rw [h]; rfl
  · have : runesB (bl s) ≠ [] := by rw [runesB_step h]; simp
    rw [decide_eq_false this, eq_comm, beq_eq_false_iff_ne]; exact h
theorem rx_ok {b : Bs} {t : Re} (h : rxP b = .ok t) : wholeP (placesAt 0 b) = .ok t ∧ b.length ≤ 256 := by
  unfold rxP at h
  split at h
  · cases h
  · exact ⟨h, by omega⟩
theorem rx_of {b : Bs} {t : Re} (h : wholeP (placesAt 0 b) = .ok t) (hl : b.length ≤ 256) : rxP b = .ok t := by unfold rxP; rw [if_neg (by omega)]; exact h
theorem rx_err {b : Bs} {f : Flt} (h : rxP b = .error f) : f.2 ≠ 0 := by
  unfold rxP at h
  split at h
  · injection h with h; subst h; decide
  · have := wholeP_ec (places_ok b 0) h
    unfold Ec at this; omega
theorem grpT_len (p x : Bs) : (grpT p x).length = p.length + x.length + 2 := by unfold grpT; simp; omega
/-- Both patterns, if they may stand in groups together. -/
def twoP (p q : Bs) : Option (Re × Re) :=
  match rxP p with
  | .error _ => none
  | .ok a =>
    match rxP q with
    | .error _ => none
    | .ok b => if 250 < p.length + q.length then none else match rxP (grpT p (grpT q [])) with | .error _ => none | .ok _ => some (a, b)
theorem two_fits {p q : Bs} {a b : Re} (h : twoP p q = some (a, b)) : rxP p = .ok a ∧ rxP q = .ok b ∧ p.length + q.length ≤ 250 ∧ FitB p a ∧ FitB q b := by
  unfold twoP at h
  split at h
  · cases h
  · rename_i a' ha
    split at h
    · cases h
    · rename_i b' hb
      split at h
      · cases h
      · rename_i hl
        split at h
        · cases h
        · rename_i u hu
          injection h with h; injection h with h1 h2; subst h1; subst h2
          have := both_fit (rx_ok ha).1 (rx_ok hb).1 (rx_ok hu).1
          exact ⟨ha, hb, by omega, this.1, this.2⟩
def TwOut (p q : ByteArray) (w : World) (r : Option (Re × Re)) (e : Ending) (w' : World) : Prop :=
  match r with
  | none => e = .returned (.tuple #[.pointer none, .pointer none]) ∧ Below w.heap.size w w'
  | some (a, b) => ∃ b1 b2, e = .returned (.tuple #[.pointer (some ⟨b1, 0, none⟩), .pointer (some ⟨b2, 0, none⟩)]) ∧ RexIs w' b1 p a ∧ RexIs w' b2 q b ∧ Below w.heap.size w w'
section
set_option maxHeartbeats 3200000
set_option maxRecDepth 100000
theorem two_any (P Q : Bs) (w : World) (hP : P.length ≤ 256) (hQ : Q.length ≤ 256) : Calls Try.prog 16 #[.string (mkB P), .string (mkB Q)] w (TwOut (mkB P) (mkB Q) w (twoP P Q)) := by
  have hr1 := fun W => rparse_any (mkB P) W
  have hr2 := fun W => rparse_any (mkB Q) W
  have hp1 := fun W => parse_any (mkB P) W
  have hp2 := fun W => parse_any (mkB Q) W
  rw [bl_mk] at hr1 hr2 hp1 hp2
  have hs1 : (mkB P).size = P.length := by rw [← bl_len, bl_mk]
  have hs2 : (mkB Q).size = Q.length := by rw [← bl_len, bl_mk]
  obtain ⟨RES, hRES⟩ : ∃ RES, RES = twoP P Q := ⟨_, rfl⟩
  rw [← hRES]
  unfold twoP at hRES
  have he1 := fun f e => rx_err (b := P) (f := f) e
  have he2 := fun f e => rx_err (b := Q) (f := f) e
  have he3 := fun f e => rx_err (b := grpT P (grpT Q [])) (f := f) e
  have ha1 : ∀ u, (Op.stringOp .add ⟨#[40]⟩ (mkB P)).run Try.prog u = .ok (.string (mkB (40 :: P))) u := fun u => add_text u [40] P (by simp; omega)
  have ha2 : ∀ u, (Op.stringOp .add (mkB (40 :: P)) ⟨#[41, 40]⟩).run Try.prog u = .ok (.string (mkB (40 :: (P ++ [41, 40])))) u := fun u => add_text u (40 :: P) [41, 40] (by simp; omega)
  have ha3 : ∀ u, (Op.stringOp .add (mkB (40 :: (P ++ [41, 40]))) (mkB Q)).run Try.prog u = .ok (.string (mkB (40 :: (P ++ [41, 40]) ++ Q))) u := fun u => add_text u (40 :: (P ++ [41, 40])) Q (by simp; omega)
  have ha4 : ∀ u, (Op.stringOp .add (mkB (40 :: (P ++ [41, 40]) ++ Q)) ⟨#[41]⟩).run Try.prog u = .ok (.string (mkB (grpT P (grpT Q [])))) u := fun u => by
    have := add_text u (40 :: (P ++ [41, 40]) ++ Q) [41] (by simp; omega)
    have e : 40 :: (P ++ [41, 40]) ++ Q ++ [41] = grpT P (grpT Q []) := by simp [grpT]
    rw [e] at this; exact this
  have hr3 := fun W => rparse_any (mkB (grpT P (grpT Q []))) W
  rw [bl_mk] at hr3
  generalize grpT P (grpT Q []) = GT at ha4 hr3 hRES he3
  obtain ⟨L1, hL1⟩ : ∃ L1, 40 :: P = L1 := ⟨_, rfl⟩
  rw [hL1] at ha1 ha2
  obtain ⟨L2, hL2⟩ : ∃ L2, 40 :: (P ++ [41, 40]) = L2 := ⟨_, rfl⟩
  rw [hL2] at ha2 ha3 ha4
  obtain ⟨L3, hL3⟩ : ∃ L3, L2 ++ Q = L3 := ⟨_, rfl⟩
  rw [hL3] at ha3 ha4
  clear hL1 hL2 hL3
  generalize rxP P = R1 at *
  generalize rxP Q = R2 at *
  generalize rxP GT = R3 at *
  have HR1 := Lib.hid hr1; have HR2 := Lib.hid hr2; have HR3 := Lib.hid hr3; have HP1 := Lib.hid hp1; have HP2 := Lib.hid hp2
  have HE1 := Lib.hid he1; have HE2 := Lib.hid he2; have HE3 := Lib.hid he3; have HRES := Lib.hid hRES
  have g1 : (P.length : Int) + Q.length ≤ 512 := by omega
  have hw1 : IntKind.i64.wrap (((mkB P).size : Int) + ((mkB Q).size : Int)) = ((mkB P).size : Int) + ((mkB Q).size : Int) := by simp [IntKind.wrap, IntKind.bits, IntKind.signed]; omega
  have HS1 := Lib.hid hs1; have HS2 := Lib.hid hs2
  clear hr1 hr2 hr3 hp1 hp2 he1 he2 he3 hRES hs1 hs2 g1
  go_enter Try.func16, Try.ntmps16
  go_wp2_with fail
  refine (HR1.out _).mono ?_
  intro e w1 o1
  cases R1 with
  | error f =>
    obtain ⟨rfl, hb1⟩ := o1
    have HB1 := Lib.hid hb1; clear hb1
    have hf := HE1.out f rfl
    have q1 : ((f.2 : Int) != 0) = true := by rw [bne_iff_ne]; omega
    have q2 : ((f.2 : Int) == 0) = false := by rw [beq_eq_false_iff_ne]; omega
    have HRR := Lib.hid HRES.out
    go_wp2_with fail
    refine (HR2.out _).mono ?_
    intro e w2 o2
    cases R2 with
    | error f' =>
      obtain ⟨rfl, hb2⟩ := o2
      have HB2 := Lib.hid (HB1.out.trans (hb2.mono HB1.out.size)); clear hb2
      go_wp2
      go_ret2
      rw [HRR.out]
      exact ⟨rfl, HB2.out⟩
    | ok t' =>
      obtain ⟨p2, rfl, -, -, hb2⟩ := o2
      have HB2 := Lib.hid (HB1.out.trans (hb2.mono HB1.out.size)); clear hb2
      go_wp2
      go_ret2
      rw [HRR.out]
      exact ⟨rfl, HB2.out⟩
  | ok t1 =>
    obtain ⟨p1, rfl, -, -, hb1⟩ := o1
    have HB1 := Lib.hid hb1; clear hb1
    go_wp2_with fail
    refine (HR2.out _).mono ?_
    intro e w2 o2
    cases R2 with
    | error f' =>
      obtain ⟨rfl, hb2⟩ := o2
      have hf := HE2.out f' rfl
      have q1 : ((f'.2 : Int) != 0) = true := by rw [bne_iff_ne]; omega
      have q2 : ((f'.2 : Int) == 0) = false := by rw [beq_eq_false_iff_ne]; omega
      have HRR := Lib.hid HRES.out
      have HB2 := Lib.hid (HB1.out.trans (hb2.mono HB1.out.size)); clear hb2
      go_wp2
      go_ret2
      rw [HRR.out]
      exact ⟨rfl, HB2.out⟩
    | ok t2 =>
      obtain ⟨p2, rfl, -, -, hb2⟩ := o2
      have HB2 := Lib.hid (HB1.out.trans (hb2.mono HB1.out.size)); clear hb2
      have hrr := HRES.out
      simp only at hrr
      by_cases hl : 250 < P.length + Q.length
      · rw [if_pos hl] at hrr
        have HRR := Lib.hid hrr
        have d1 : (250 : Int) < ((mkB P).size : Int) + ((mkB Q).size : Int) := by rw [HS1.out, HS2.out]; omega
        have d2 : decide ((250 : Int) < ((mkB P).size : Int) + ((mkB Q).size : Int)) = true := decide_eq_true d1
        clear hrr
        go_wp2
        go_ret2
        rw [HRR.out]
        exact ⟨rfl, HB2.out⟩
      · rw [if_neg hl] at hrr
        have d1 : ¬ (250 : Int) < ((mkB P).size : Int) + ((mkB Q).size : Int) := by rw [HS1.out, HS2.out]; omega
        have d2 : decide ((250 : Int) < ((mkB P).size : Int) + ((mkB Q).size : Int)) = false := decide_eq_false d1
        have HRR := Lib.hid hrr
        clear hrr
        go_wp2_with fail
        refine (HP1.out _).mono ?_
        rintro e w3 ⟨b1, rfl, -, hx1, hb3⟩
        have HB3 := Lib.hid (HB2.out.trans (hb3.mono HB2.out.size)); have HX1 := Lib.hid hx1; clear hb3 hx1
        go_wp2_with fail
        refine (HP2.out _).mono ?_
        rintro e w4 ⟨b2, rfl, -, hx2, hb4⟩
        have HB4 := Lib.hid (HB3.out.trans (hb4.mono HB3.out.size)); have HX2 := Lib.hid hx2; have HX14 := Lib.hid (HX1.out.below hb4); clear hb4 hx2
        go_wp2_with fail
        refine (HR3.out _).mono ?_
        intro e w5 o3
        cases R3 with
        | error f' =>
          obtain ⟨rfl, hb5⟩ := o3
          have hf := HE3.out f' rfl
          have q1 : ((f'.2 : Int) != 0) = true := by rw [bne_iff_ne]; omega
          have q2 : ((f'.2 : Int) == 0) = false := by rw [beq_eq_false_iff_ne]; omega
          have HB5 := Lib.hid (HB4.out.trans (hb5.mono HB4.out.size)); clear hb5
          go_wp2
          go_ret2
          rw [HRR.out]
          exact ⟨rfl, HB5.out⟩
        | ok t3 =>
          obtain ⟨p3, rfl, -, -, hb5⟩ := o3
          have HB5 := Lib.hid (HB4.out.trans (hb5.mono HB4.out.size)); have HX15 := Lib.hid (HX14.out.below hb5); have HX25 := Lib.hid (HX2.out.below hb5); clear hb5
          go_wp2
          go_ret2
          rw [HRR.out]
          exact ⟨b1, b2, rfl, HX15.out, HX25.out, HB5.out⟩
end
end Go.Proofs.Ytdihaabjmlhemaa
