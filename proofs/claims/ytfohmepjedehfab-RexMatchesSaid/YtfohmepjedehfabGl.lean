/-
  The automaton of a tree's atoms takes what the tree matches.
-/
import Derived.Test.YtfohmepjedehfabRe
namespace Go.Proofs.Ytfohmepjedehfab
set_option linter.unusedVariables false
set_option linter.unusedSimpArgs false

def Ed (A : List Atm) (i j : Nat) : Prop := ∃ a, A[i]? = some a ∧ a.next.testBit j = true
def Tk (A : List Atm) (i : Nat) (c : Int) : Prop := ∃ a, A[i]? = some a ∧ takesP a.sp a.neg c = true

inductive Path (E : Nat → Nat → Prop) (T : Nat → Int → Prop) : Nat → List Int → Nat → Prop
  | one {i : Nat} {c : Int} : T i c → Path E T i [c] i
  | cons {i k j : Nat} {c : Int} {w : List Int} : T i c → E i k → Path E T k w j → Path E T i (c :: w) j

section
variable {E E' : Nat → Nat → Prop} {T T' : Nat → Int → Prop}
theorem Path.ne {i j : Nat} {w : List Int} (h : Path E T i w j) : w ≠ [] := by cases h <;> simp
theorem Path.mono (hE : ∀ i j, E i j → E' i j) (hT : ∀ i c, T i c → T' i c) {i j : Nat} {w : List Int} (h : Path E T i w j) : Path E' T' i w j := by
  induction h with
  | one t => exact .one (hT _ _ t)
  | cons t e _ ih => exact .cons (hT _ _ t) (hE _ _ e) ih
theorem Path.app {i l f j : Nat} {u v : List Int} (h : Path E T i u l) (e : E l f) (k : Path E T f v j) : Path E T i (u ++ v) j := by
  induction h with
  | one t => exact .cons t e k
  | cons t e' _ ih => exact .cons t e' (ih e)
theorem Path.cut {L F : Nat → Prop} (hE : ∀ i j, E' i j → E i j ∨ (L i ∧ F j)) {i j : Nat} {w : List Int} (h : Path E' T i w j) :
    Path E T i w j ∨ ∃ u v l f, w = u ++ v ∧ Path E T i u l ∧ L l ∧ F f ∧ Path E' T f v j := by
  induction h with
  | one t => exact .inl (.one t)
  | @cons i k j c w t e hk ih =>
    rcases hE _ _ e with e | ⟨hl, hf⟩
    · rcases ih with p | ⟨u, v, l, f, rfl, p, hl, hf, q⟩
      · exact .inl (.cons t e p)
      · exact .inr ⟨c :: u, v, l, f, rfl, .cons t e p, hl, hf, q⟩
    · exact .inr ⟨[c], w, i, k, rfl, .one t, hl, hf, hk⟩
theorem Path.stay {S : Nat → Prop} (hE : ∀ i j, S i → E i j → E' i j ∧ S j) (hT : ∀ i c, S i → T i c → T' i c) {i j : Nat} {w : List Int} (h : Path E T i w j) (hi : S i) : Path E' T' i w j ∧ S j := by
  induction h with
  | one t => exact ⟨.one (hT _ _ hi t), hi⟩
  | cons t e _ ih =>
    have := hE _ _ hi e
    have q := ih this.2
    exact ⟨.cons (hT _ _ hi t) this.1 q.1, q.2⟩
end

theorem followF_get (these next : Nat) : ∀ (A : List Atm) (k i : Nat), (followF these next k A)[i]? = (A[i]?).map fun a => if these.testBit (k + i) then { a with next := a.next ||| next } else a
  | [], k, i => by simp [followF]
  | a :: t, k, 0 => by simp [followF]
  | a :: t, k, i + 1 => by
    simp only [followF, List.getElem?_cons_succ]
    rw [followF_get these next t (k + 1) i, show k + 1 + i = k + (i + 1) by omega]
theorem followF_len (these next : Nat) : ∀ (A : List Atm) (k : Nat), (followF these next k A).length = A.length
  | [], k => rfl
  | a :: t, k => by simp [followF, followF_len these next t (k + 1)]
theorem followP_len (these next : Nat) (A : List Atm) : (followP these next A).length = A.length := followF_len _ _ _ _
theorem followP_get (these next : Nat) (A : List Atm) (i : Nat) : (followP these next A)[i]? = (A[i]?).map fun a => if these.testBit i then { a with next := a.next ||| next } else a := by
  rw [followP, followF_get, Nat.zero_add]
theorem Ed_follow {these next : Nat} {A : List Atm} {i j : Nat} : Ed (followP these next A) i j ↔ Ed A i j ∨ (i < A.length ∧ these.testBit i = true ∧ next.testBit j = true) := by
  unfold Ed
  rw [followP_get]
  constructor
  · rintro ⟨a, ha, hj⟩
    cases hA : A[i]? with
    | none => rw [hA] at ha; cases ha
    | some b =>
      rw [hA] at ha
      simp only [Option.map_some, Option.some.injEq] at ha
      subst ha
      by_cases ht : these.testBit i = true
      · simp only [ht, if_true, Nat.testBit_or, Bool.or_eq_true] at hj
        rcases hj with hj | hj
        · exact .inl ⟨b, rfl, hj⟩
        · exact .inr ⟨(List.getElem?_eq_some_iff.mp hA).1, ht, hj⟩
      · rw [if_neg ht] at hj
        exact .inl ⟨b, rfl, hj⟩
  · rintro (⟨a, ha, hj⟩ | ⟨hi, ht, hj⟩)
    · rw [ha]
      refine ⟨_, rfl, ?_⟩
      by_cases ht : these.testBit i = true
      · simp [ht, Nat.testBit_or, hj]
      · simp [ht, hj]
    · rw [List.getElem?_eq_getElem hi]
      refine ⟨_, rfl, ?_⟩
      simp [ht, Nat.testBit_or, hj]
theorem Tk_follow {these next : Nat} {A : List Atm} {i : Nat} {c : Int} : Tk (followP these next A) i c ↔ Tk A i c := by
  unfold Tk
  rw [followP_get]
  cases hA : A[i]? with
  | none => simp
  | some b => by_cases ht : these.testBit i = true <;> simp [ht]
theorem Ed.lt {A : List Atm} {i j : Nat} (h : Ed A i j) : i < A.length := by obtain ⟨a, ha, _⟩ := h; exact (List.getElem?_eq_some_iff.mp ha).1
theorem Tk.lt {A : List Atm} {i : Nat} {c : Int} (h : Tk A i c) : i < A.length := by obtain ⟨a, ha, _⟩ := h; exact (List.getElem?_eq_some_iff.mp ha).1

structure Gl (r : Re) (m : Nat) (A : List Atm) (p : Prt) : Prop where
  le : m ≤ A.length
  first : ∀ i, p.first.testBit i = true → m ≤ i ∧ i < A.length
  last : ∀ i, p.last.testBit i = true → m ≤ i ∧ i < A.length
  closed : ∀ i j, m ≤ i → Ed A i j → m ≤ j ∧ j < A.length
  lang : ∀ w, w ≠ [] → (Mt r w ↔ ∃ i j, p.first.testBit i = true ∧ p.last.testBit j = true ∧ Path (Ed A) (Tk A) i w j)
  nil : Mt r [] ↔ p.empty = true
def Same (n : Nat) (A B : List Atm) : Prop := ∀ i, i < n → B[i]? = A[i]?
theorem Same.ed {n : Nat} {A B : List Atm} (h : Same n A B) {i j : Nat} (hi : i < n) : Ed B i j ↔ Ed A i j := by unfold Ed; rw [h i hi]
theorem Same.tk {n : Nat} {A B : List Atm} (h : Same n A B) {i : Nat} {c : Int} (hi : i < n) : Tk B i c ↔ Tk A i c := by unfold Tk; rw [h i hi]
theorem Same.follow {n : Nat} {A B : List Atm} (h : Same n A B) {these next : Nat} (ht : ∀ i, these.testBit i = true → n ≤ i) : Same n A (followP these next B) := by
  intro i hi
  rw [followP_get, h i hi]
  have hf : ¬ these.testBit i = true := fun hb => by have := ht i hb; omega
  cases A[i]? with
  | none => rfl
  | some a => simp [hf]
theorem Same.trans {n m : Nat} {A B C : List Atm} (h : Same n A B) (k : Same m B C) (hm : n ≤ m) : Same n A C := fun i hi => (k i (by omega)).trans (h i hi)

theorem Star.one {M : List Int → Prop} {w : List Int} (h : M w) : Star M w := by have := Star.cons h Star.nil; rwa [List.append_nil] at this
theorem Star.app {M : List Int → Prop} {u v : List Int} (h : Star M u) (k : Star M v) : Star M (u ++ v) := by
  induction h with
  | nil => exact k
  | cons a _ ih => rw [List.append_assoc]; exact .cons a ih
theorem Star.first {M : List Int → Prop} {w : List Int} (h : Star M w) : w = [] ∨ ∃ u v, w = u ++ v ∧ M u ∧ Star M v := by
  cases h with
  | nil => exact .inl rfl
  | cons a b => exact .inr ⟨_, _, rfl, a, b⟩
theorem none_bit (i : Nat) : ¬ (0 : Nat).testBit i = true := by simp
theorem bit_if (c : Bool) (x y i : Nat) : (if c then x ||| y else x).testBit i = true ↔ x.testBit i = true ∨ (c = true ∧ y.testBit i = true) := by
  cases c <;> simp [Nat.testBit_or]

theorem Gl.loop {a : Re} {m : Nat} {A : List Atm} {p : Prt} (h : Gl a m A p) {w : List Int} (hw : w ≠ []) :
    Star (Mt a) w ↔ ∃ i j, p.first.testBit i = true ∧ p.last.testBit j = true ∧ Path (Ed (followP p.last p.first A)) (Tk (followP p.last p.first A)) i w j := by
  have hmono : ∀ {i w j}, Path (Ed A) (Tk A) i w j → Path (Ed (followP p.last p.first A)) (Tk (followP p.last p.first A)) i w j := fun q => q.mono (fun i j e => Ed_follow.mpr (.inl e)) (fun i c t => Tk_follow.mpr t)
  constructor
  · intro hs
    induction hs with
    | nil => exact absurd rfl hw
    | @cons u v hu hv ih =>
      by_cases h0 : u = []
      · subst h0; exact ih hw
      · obtain ⟨i, l, hi, hl, q⟩ := (h.lang u h0).mp hu
        by_cases h1 : v = []
        · subst h1; rw [List.append_nil]; exact ⟨i, l, hi, hl, hmono q⟩
        · obtain ⟨f, j, hf, hj, q2⟩ := ih h1
          exact ⟨i, j, hi, hj, (hmono q).app (Ed_follow.mpr (.inr ⟨(h.last l hl).2, hl, hf⟩)) q2⟩
  · rintro ⟨i, j, hi, hj, q⟩
    have key : ∀ (n : Nat) (w : List Int) (i : Nat), w.length ≤ n → p.first.testBit i = true → Path (Ed (followP p.last p.first A)) (Tk (followP p.last p.first A)) i w j → Star (Mt a) w := by
      intro n
      induction n with
      | zero => intro w i hn _ q; exact absurd (List.eq_nil_of_length_eq_zero (by omega)) q.ne
      | succ n ih =>
        intro w i hn hi q
        have q' : Path (Ed (followP p.last p.first A)) (Tk A) i w j := q.mono (fun _ _ e => e) (fun _ _ t => Tk_follow.mp t)
        rcases q'.cut (E := Ed A) (L := fun i => p.last.testBit i = true) (F := fun j => p.first.testBit j = true) (fun i j e => (Ed_follow.mp e).imp id fun e => e.2) with q' | ⟨u, v, l, f, rfl, q1, hl, hf, q2⟩
        · exact Star.one ((h.lang w q'.ne).mpr ⟨i, j, hi, hj, q'⟩)
        · refine .cons ((h.lang u q1.ne).mpr ⟨i, l, hi, hl, q1⟩) (ih v f ?_ hf (q2.mono (fun _ _ e => e) (fun _ _ t => Tk_follow.mpr t)))
          have : 0 < u.length := List.length_pos_iff.mpr q1.ne
          simp at hn; omega
    exact key w.length w i (Nat.le_refl _) hi q

theorem Gl.loop_closed {a : Re} {m : Nat} {A : List Atm} {p : Prt} (h : Gl a m A p) (i j : Nat) (hi : m ≤ i) (e : Ed (followP p.last p.first A) i j) : m ≤ j ∧ j < (followP p.last p.first A).length := by
  rw [followP_len]
  rcases Ed_follow.mp e with e | ⟨_, _, hj⟩
  · exact h.closed i j hi e
  · exact h.first j hj

theorem comp_gl : ∀ (r : Re) (A : List Atm), Gl r A.length (compP r A).2 (compP r A).1 ∧ Same A.length A (compP r A).2
  | .none, A => by
    refine ⟨⟨Nat.le_refl _, fun i h => absurd h (none_bit i), fun i h => absurd h (none_bit i), fun i j hi e => ?_, fun w hw => ?_, by simp [Mt, compP]⟩, fun i _ => rfl⟩
    · have := e.lt; simp only [compP] at this; omega
    · simp only [Mt, compP]
      exact ⟨fun h => absurd h hw, fun ⟨i, j, h, _⟩ => absurd h (none_bit i)⟩
  | .set l neg, A => by
    have hlast : ∀ i, (2 ^ A.length).testBit i = true → i = A.length := fun i h => by rw [Nat.testBit_two_pow] at h; simpa using Eq.symm (of_decide_eq_true h)
    have hget : (A ++ [(⟨l, neg, 0⟩ : Atm)])[A.length]? = some ⟨l, neg, 0⟩ := by simp
    refine ⟨⟨by simp [compP, addP], fun i h => ?_, fun i h => ?_, fun i j hi e => ?_, fun w hw => ?_, ?_⟩, fun i hi => ?_⟩
    · have := hlast i h; simp [compP, addP, this]
    · have := hlast i h; simp [compP, addP, this]
    · have hlt := e.lt
      simp [compP, addP] at hlt
      have : i = A.length := by omega
      subst this
      obtain ⟨a, ha, hj⟩ := e
      simp only [compP, addP] at ha
      rw [hget] at ha; injection ha with ha; subst ha
      exact absurd hj (none_bit j)
    · simp only [Mt, compP, addP]
      constructor
      · rintro ⟨c, rfl, hc⟩
        exact ⟨A.length, A.length, by simp [Nat.testBit_two_pow_self], by simp [Nat.testBit_two_pow_self], .one ⟨_, hget, hc⟩⟩
      · rintro ⟨i, j, hi, hj, q⟩
        have hi' := hlast i hi; subst hi'
        cases q with
        | one t =>
          obtain ⟨a, ha, hc⟩ := t
          rw [hget] at ha; injection ha with ha; subst ha
          exact ⟨_, rfl, hc⟩
        | cons t e _ =>
          obtain ⟨a, ha, hj⟩ := e
          rw [hget] at ha; injection ha with ha; subst ha
          exact absurd hj (none_bit _)
    · simp [Mt, compP, addP]
    · simp only [compP, addP]
      rw [List.getElem?_append_left hi]
  | .cat a b, A => by
    obtain ⟨ga, sa⟩ := comp_gl a A
    obtain ⟨gb, sb⟩ := comp_gl b (compP a A).2
    simp only [compP]
    generalize (compP a A).2 = A1 at ga sa gb sb ⊢
    generalize (compP a A).1 = pa at ga ⊢
    generalize (compP b A1).2 = A2 at gb sb ⊢
    generalize (compP b A1).1 = pb at gb ⊢
    have l1 := ga.le; have l2 := gb.le
    have e3 : ∀ i j, Ed (followP pa.last pb.first A2) i j ↔ Ed A2 i j ∨ (i < A2.length ∧ pa.last.testBit i = true ∧ pb.first.testBit j = true) := fun i j => Ed_follow
    have up1 : ∀ {i w j}, Path (Ed A1) (Tk A1) i w j → Path (Ed A2) (Tk A2) i w j := fun q => q.mono (fun i j e => (sb.ed e.lt).mpr e) (fun i c t => (sb.tk t.lt).mpr t)
    have up2 : ∀ {i w j}, Path (Ed A2) (Tk A2) i w j → Path (Ed (followP pa.last pb.first A2)) (Tk (followP pa.last pb.first A2)) i w j := fun q => q.mono (fun i j e => (e3 i j).mpr (.inl e)) (fun i c t => Tk_follow.mpr t)
    have down1 : ∀ {i w j}, Path (Ed A2) (Tk A2) i w j → A.length ≤ i → i < A1.length → Path (Ed A1) (Tk A1) i w j ∧ A.length ≤ j ∧ j < A1.length := fun q h1 h2 =>
      q.stay (S := fun i => A.length ≤ i ∧ i < A1.length) (fun i j hs e => ⟨(sb.ed hs.2).mp e, ga.closed i j hs.1 ((sb.ed hs.2).mp e)⟩) (fun i c hs t => (sb.tk hs.2).mp t) ⟨h1, h2⟩
    have stay2 : ∀ {i w j}, Path (Ed A2) (Tk A2) i w j → A1.length ≤ i → A1.length ≤ j := fun q h1 =>
      (q.stay (E' := Ed A2) (T' := Tk A2) (S := fun i => A1.length ≤ i) (fun i j hs e => ⟨e, (gb.closed i j hs e).1⟩) (fun i c hs t => t) h1).2
    have stay3 : ∀ {i w j}, Path (Ed (followP pa.last pb.first A2)) (Tk A2) i w j → A1.length ≤ i → Path (Ed A2) (Tk A2) i w j ∧ A1.length ≤ j := fun q h1 =>
      q.stay (S := fun i => A1.length ≤ i) (fun i j hs e => by
        rcases (e3 i j).mp e with e | ⟨_, hl, _⟩
        · exact ⟨e, (gb.closed i j hs e).1⟩
        · have := (ga.last i hl).2; omega) (fun i c hs t => t) h1
    have hf : ∀ i, (joinP pa pb).first.testBit i = true ↔ pa.first.testBit i = true ∨ (pa.empty = true ∧ pb.first.testBit i = true) := fun i => bit_if _ _ _ _
    have hl : ∀ i, (joinP pa pb).last.testBit i = true ↔ pb.last.testBit i = true ∨ (pb.empty = true ∧ pa.last.testBit i = true) := fun i => bit_if _ _ _ _
    refine ⟨⟨by rw [followP_len]; omega, fun i h => ?_, fun i h => ?_, fun i j hi e => ?_, fun w hw => ?_, ?_⟩, ?_⟩
    · rw [followP_len]
      rcases (hf i).mp h with h | ⟨_, h⟩
      · have := ga.first i h; omega
      · have := gb.first i h; omega
    · rw [followP_len]
      rcases (hl i).mp h with h | ⟨_, h⟩
      · have := gb.last i h; omega
      · have := ga.last i h; omega
    · rw [followP_len]
      rcases (e3 i j).mp e with e | ⟨_, _, h⟩
      · by_cases hi1 : i < A1.length
        · have := ga.closed i j hi ((sb.ed hi1).mp e); omega
        · have := gb.closed i j (by omega) e; omega
      · have := gb.first j h; omega
    · simp only [Mt]
      constructor
      · rintro ⟨u, v, rfl, hu, hv⟩
        by_cases h0 : u = []
        · subst h0
          rw [List.nil_append] at hw ⊢
          obtain ⟨i, j, hi, hj, q⟩ := (gb.lang v hw).mp hv
          exact ⟨i, j, (hf i).mpr (.inr ⟨ga.nil.mp hu, hi⟩), (hl j).mpr (.inl hj), up2 q⟩
        · obtain ⟨i, l, hi, hl1, q⟩ := (ga.lang u h0).mp hu
          by_cases h1 : v = []
          · subst h1
            rw [List.append_nil]
            exact ⟨i, l, (hf i).mpr (.inl hi), (hl l).mpr (.inr ⟨gb.nil.mp hv, hl1⟩), up2 (up1 q)⟩
          · obtain ⟨f, j, hf1, hj, q2⟩ := (gb.lang v h1).mp hv
            refine ⟨i, j, (hf i).mpr (.inl hi), (hl j).mpr (.inl hj), (up2 (up1 q)).app ((e3 l f).mpr (.inr ⟨?_, hl1, hf1⟩)) (up2 q2)⟩
            have := ga.last l hl1; omega
      · rintro ⟨i, j, hi, hj, q⟩
        have q' : Path (Ed (followP pa.last pb.first A2)) (Tk A2) i w j := q.mono (fun _ _ e => e) (fun _ _ t => Tk_follow.mp t)
        rcases q'.cut (E := Ed A2) (L := fun i => pa.last.testBit i = true) (F := fun j => pb.first.testBit j = true) (fun i j e => ((e3 i j).mp e).imp id fun e => e.2) with q1 | ⟨u, v, l, f, rfl, q1, hl1, hf1, q2⟩
        · rcases (hf i).mp hi with hi | ⟨he, hi⟩
          · have hb := ga.first i hi
            obtain ⟨q0, hj0, hj1⟩ := down1 q1 hb.1 hb.2
            rcases (hl j).mp hj with hj | ⟨he, hj⟩
            · have := gb.last j hj; omega
            · exact ⟨w, [], by simp, (ga.lang w hw).mpr ⟨i, j, hi, hj, q0⟩, gb.nil.mpr he⟩
          · have hb := gb.first i hi
            have hj1 := stay2 q1 hb.1
            rcases (hl j).mp hj with hj | ⟨_, hj⟩
            · exact ⟨[], w, by simp, ga.nil.mpr he, (gb.lang w hw).mpr ⟨i, j, hi, hj, q1⟩⟩
            · have := ga.last j hj; omega
        · have hlb := ga.last l hl1
          have hfb := gb.first f hf1
          obtain ⟨q3, hj1⟩ := stay3 q2 hfb.1
          have hj' : pb.last.testBit j = true := by
            rcases (hl j).mp hj with hj | ⟨_, hj⟩
            · exact hj
            · have := ga.last j hj; omega
          rcases (hf i).mp hi with hi | ⟨_, hi⟩
          · have hb := ga.first i hi
            obtain ⟨q0, _, _⟩ := down1 q1 hb.1 hb.2
            exact ⟨u, v, rfl, (ga.lang u q1.ne).mpr ⟨i, l, hi, hl1, q0⟩, (gb.lang v q3.ne).mpr ⟨f, j, hf1, hj', q3⟩⟩
          · have hb := gb.first i hi
            have := stay2 q1 hb.1; omega
    · simp only [Mt, joinP, Bool.and_eq_true]
      rw [← ga.nil, ← gb.nil]
      constructor
      · rintro ⟨u, v, e, hu, hv⟩
        have := List.append_eq_nil_iff.mp e.symm
        rw [this.1] at hu; rw [this.2] at hv
        exact ⟨hu, hv⟩
      · rintro ⟨hu, hv⟩; exact ⟨[], [], rfl, hu, hv⟩
    · exact (sa.trans sb l1).follow fun i h => (ga.last i h).1
  | .alt a b, A => by
    obtain ⟨ga, sa⟩ := comp_gl a A
    obtain ⟨gb, sb⟩ := comp_gl b (compP a A).2
    simp only [compP]
    generalize (compP a A).2 = A1 at ga sa gb sb ⊢
    generalize (compP a A).1 = pa at ga ⊢
    generalize (compP b A1).2 = A2 at gb sb ⊢
    generalize (compP b A1).1 = pb at gb ⊢
    have l1 := ga.le; have l2 := gb.le
    have up1 : ∀ {i w j}, Path (Ed A1) (Tk A1) i w j → Path (Ed A2) (Tk A2) i w j := fun q => q.mono (fun i j e => (sb.ed e.lt).mpr e) (fun i c t => (sb.tk t.lt).mpr t)
    have down1 : ∀ {i w j}, Path (Ed A2) (Tk A2) i w j → A.length ≤ i → i < A1.length → Path (Ed A1) (Tk A1) i w j ∧ A.length ≤ j ∧ j < A1.length := fun q h1 h2 =>
      q.stay (S := fun i => A.length ≤ i ∧ i < A1.length) (fun i j hs e => ⟨(sb.ed hs.2).mp e, ga.closed i j hs.1 ((sb.ed hs.2).mp e)⟩) (fun i c hs t => (sb.tk hs.2).mp t) ⟨h1, h2⟩
    have stay2 : ∀ {i w j}, Path (Ed A2) (Tk A2) i w j → A1.length ≤ i → A1.length ≤ j := fun q h1 =>
      (q.stay (E' := Ed A2) (T' := Tk A2) (S := fun i => A1.length ≤ i) (fun i j hs e => ⟨e, (gb.closed i j hs e).1⟩) (fun i c hs t => t) h1).2
    have hf : ∀ i, (eitherP pa pb).first.testBit i = true ↔ pa.first.testBit i = true ∨ pb.first.testBit i = true := fun i => by simp [eitherP, Nat.testBit_or]
    have hl : ∀ i, (eitherP pa pb).last.testBit i = true ↔ pa.last.testBit i = true ∨ pb.last.testBit i = true := fun i => by simp [eitherP, Nat.testBit_or]
    refine ⟨⟨by omega, fun i h => ?_, fun i h => ?_, fun i j hi e => ?_, fun w hw => ?_, ?_⟩, sa.trans sb l1⟩
    · rcases (hf i).mp h with h | h
      · have := ga.first i h; omega
      · have := gb.first i h; omega
    · rcases (hl i).mp h with h | h
      · have := ga.last i h; omega
      · have := gb.last i h; omega
    · by_cases hi1 : i < A1.length
      · have := ga.closed i j hi ((sb.ed hi1).mp e); omega
      · have := gb.closed i j (by omega) e; omega
    · simp only [Mt]
      rw [ga.lang w hw, gb.lang w hw]
      constructor
      · rintro (⟨i, j, hi, hj, q⟩ | ⟨i, j, hi, hj, q⟩)
        · exact ⟨i, j, (hf i).mpr (.inl hi), (hl j).mpr (.inl hj), up1 q⟩
        · exact ⟨i, j, (hf i).mpr (.inr hi), (hl j).mpr (.inr hj), q⟩
      · rintro ⟨i, j, hi, hj, q⟩
        rcases (hf i).mp hi with hi | hi
        · have hb := ga.first i hi
          obtain ⟨q0, h0, h1⟩ := down1 q hb.1 hb.2
          rcases (hl j).mp hj with hj | hj
          · exact .inl ⟨i, j, hi, hj, q0⟩
          · have := gb.last j hj; omega
        · have hb := gb.first i hi
          have h1 := stay2 q hb.1
          rcases (hl j).mp hj with hj | hj
          · have := ga.last j hj; omega
          · exact .inr ⟨i, j, hi, hj, q⟩
    · simp only [Mt, eitherP, Bool.or_eq_true]
      rw [ga.nil, gb.nil]
  | .star a, A => by
    obtain ⟨ga, sa⟩ := comp_gl a A
    simp only [compP]
    generalize (compP a A).2 = A1 at ga sa ⊢
    generalize (compP a A).1 = pa at ga ⊢
    refine ⟨⟨by rw [followP_len]; exact ga.le, fun i h => by rw [followP_len]; exact ga.first i h, fun i h => by rw [followP_len]; exact ga.last i h, ga.loop_closed, fun w hw => ?_, ?_⟩, sa.follow fun i h => (ga.last i h).1⟩
    · simp only [Mt]; exact ga.loop hw
    · simp only [Mt]; exact ⟨fun _ => trivial, fun _ => .nil⟩
  | .plus a, A => by
    obtain ⟨ga, sa⟩ := comp_gl a A
    simp only [compP]
    generalize (compP a A).2 = A1 at ga sa ⊢
    generalize (compP a A).1 = pa at ga ⊢
    refine ⟨⟨by rw [followP_len]; exact ga.le, fun i h => by rw [followP_len]; exact ga.first i h, fun i h => by rw [followP_len]; exact ga.last i h, ga.loop_closed, fun w hw => ?_, ?_⟩, sa.follow fun i h => (ga.last i h).1⟩
    · simp only [Mt]
      rw [← ga.loop hw]
      constructor
      · rintro ⟨u, v, rfl, hu, hv⟩; exact .cons hu hv
      · intro h
        rcases h.first with h | ⟨u, v, e, hu, hv⟩
        · exact absurd h hw
        · exact ⟨u, v, e, hu, hv⟩
    · simp only [Mt]
      rw [← ga.nil]
      constructor
      · rintro ⟨u, v, e, hu, _⟩
        have := List.append_eq_nil_iff.mp e.symm
        rw [this.1] at hu; exact hu
      · intro h; exact ⟨[], [], rfl, h, .nil⟩
  | .may a, A => by
    obtain ⟨ga, sa⟩ := comp_gl a A
    simp only [compP]
    generalize (compP a A).2 = A1 at ga sa ⊢
    generalize (compP a A).1 = pa at ga ⊢
    refine ⟨⟨ga.le, ga.first, ga.last, ga.closed, fun w hw => ?_, ?_⟩, sa⟩
    · simp only [Mt]
      rw [ga.lang w hw]
      exact ⟨fun h => h.resolve_left hw, .inr⟩
    · simp [Mt]

/-! ### gone through at once -/
theorem stepF_spec (next last : Nat) (c : Int) : ∀ (L : List Atm) (i : Nat) (r : Nat × Bool),
    (∀ k, (stepF next last c i L r).1.testBit k = true ↔ r.1.testBit k = true ∨ ∃ d a, L[d]? = some a ∧ next.testBit (i + d) = true ∧ takesP a.sp a.neg c = true ∧ a.next.testBit k = true) ∧
    ((stepF next last c i L r).2 = true ↔ r.2 = true ∨ ∃ d a, L[d]? = some a ∧ next.testBit (i + d) = true ∧ takesP a.sp a.neg c = true ∧ last.testBit (i + d) = true)
  | [], i, r => by simp [stepF]
  | a :: t, i, r => by
    have ih := stepF_spec next last c t (i + 1)
    have shift : ∀ (P : Nat → Atm → Prop), (∃ d b, (a :: t)[d]? = some b ∧ P d b) ↔ P 0 a ∨ ∃ d b, t[d]? = some b ∧ P (d + 1) b := by
      intro P
      constructor
      · rintro ⟨d, b, hd, hp⟩
        cases d with
        | zero => simp at hd; subst hd; exact .inl hp
        | succ d => exact .inr ⟨d, b, by simpa using hd, hp⟩
      · rintro (h | ⟨d, b, hd, hp⟩)
        · exact ⟨0, a, rfl, h⟩
        · exact ⟨d + 1, b, by simpa using hd, hp⟩
    have e : ∀ d, i + 1 + d = i + (d + 1) := fun d => by omega
    simp only [stepF]
    refine ⟨fun k => ?_, ?_⟩
    · rw [(ih _).1 k, shift (fun d b => next.testBit (i + d) = true ∧ takesP b.sp b.neg c = true ∧ b.next.testBit k = true)]
      simp only [e, Nat.add_zero]
      cases hc : (next.testBit i && takesP a.sp a.neg c) with
      | true =>
        simp only [Bool.and_eq_true] at hc
        simp only [if_true, Nat.testBit_or, Bool.or_eq_true, hc, true_and, or_assoc]
      | false =>
        have : ¬ (next.testBit i = true ∧ takesP a.sp a.neg c = true ∧ a.next.testBit k = true) := fun h => by simp [h.1, h.2.1] at hc
        simp only [Bool.false_eq_true, if_false, this, false_or]
    · rw [(ih _).2, shift (fun d b => next.testBit (i + d) = true ∧ takesP b.sp b.neg c = true ∧ last.testBit (i + d) = true)]
      simp only [e, Nat.add_zero]
      cases hc : (next.testBit i && takesP a.sp a.neg c) with
      | true =>
        simp only [Bool.and_eq_true] at hc
        simp only [if_true, Bool.or_eq_true, hc, true_and, or_assoc]
      | false =>
        have : ¬ (next.testBit i = true ∧ takesP a.sp a.neg c = true ∧ last.testBit i = true) := fun h => by simp [h.1, h.2.1] at hc
        simp only [Bool.false_eq_true, if_false, this, false_or]
theorem matchF_spec (A : List Atm) (last : Nat) : ∀ (w : List Int), w ≠ [] → ∀ (next : Nat) (e : Bool), matchF A last w next e = true ↔ ∃ i j, next.testBit i = true ∧ last.testBit j = true ∧ Path (Ed A) (Tk A) i w j
  | [], h, _, _ => absurd rfl h
  | c :: t, _, next, e => by
    simp only [matchF]
    by_cases h0 : next = 0
    · subst h0
      simp
    · rw [if_neg h0]
      have s := stepF_spec next last c A 0 (0, false)
      simp only [Nat.zero_add, none_bit, false_or, Bool.false_eq_true, Nat.zero_testBit] at s
      cases t with
      | nil =>
        simp only [matchF]
        rw [s.2]
        constructor
        · rintro ⟨d, a, hd, hn, ht, hl⟩; exact ⟨d, d, hn, hl, .one ⟨a, hd, ht⟩⟩
        · rintro ⟨i, j, hi, hj, q⟩
          cases q with
          | one t => obtain ⟨a, ha, ht⟩ := t; exact ⟨i, a, ha, hi, ht, hj⟩
          | cons _ _ q => exact absurd rfl q.ne
      | cons c2 t2 =>
        rw [matchF_spec A last (c2 :: t2) (by simp)]
        constructor
        · rintro ⟨k, j, hk, hj, q⟩
          obtain ⟨d, a, hd, hn, ht, hk⟩ := (s.1 k).mp hk
          exact ⟨d, j, hn, hj, .cons ⟨a, hd, ht⟩ ⟨a, hd, hk⟩ q⟩
        · rintro ⟨i, j, hi, hj, q⟩
          cases q with
          | cons t e q =>
            obtain ⟨a, ha, ht⟩ := t
            obtain ⟨a', ha', hk⟩ := e
            rw [ha] at ha'; injection ha' with ha'; subst ha'
            exact ⟨_, j, (s.1 _).mpr ⟨i, a, ha, hi, ht, hk⟩, hj, q⟩
/-- The automaton takes what the tree matches. -/
theorem match_iff (r : Re) (w : List Int) : matchP (compP r []).1 (compP r []).2 w = true ↔ Mt r w := by
  obtain ⟨g, _⟩ := comp_gl r []
  by_cases h : w = []
  · subst h
    rw [g.nil]; simp [matchP, matchF]
  · rw [g.lang w h]
    exact matchF_spec _ _ w h _ _
end Go.Proofs.Ytfohmepjedehfab
