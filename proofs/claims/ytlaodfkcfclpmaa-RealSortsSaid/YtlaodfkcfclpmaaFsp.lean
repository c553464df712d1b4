/-
  Sums of numbers as bits, where what is no number is told by none: the two ways of summing come to the same. Plain lemmas.
-/
import Derived.Test.YtlaodfkcfclpmaaFop
namespace Go.Proofs.Ytlaodfkcfclpmaa
set_option linter.unusedVariables false
set_option linter.unusedSimpArgs false

theorem nan_read {v : Nat} (h : nanB v = true) : ∃ s t, FloatKind.f64.format.read v = .nan s t := by
  unfold nanB at h
  rw [decide_eq_true_eq] at h
  rw [read_eq, if_neg (by omega), if_neg (by omega), if_neg (by omega)]
  exact ⟨_, _, rfl⟩
theorem inf_read {v : Nat} (h : infB v = true) : ∃ s, FloatKind.f64.format.read v = .infinity s := by
  unfold infB at h
  rw [decide_eq_true_eq] at h
  rw [read_eq, if_neg (by omega), if_neg (by omega), if_pos (by omega)]
  exact ⟨_, rfl⟩
theorem num_read {v : Nat} (h : nanB v = false) : ∀ s t, FloatKind.f64.format.read v ≠ .nan s t := by
  unfold nanB at h
  rw [decide_eq_false_iff_not] at h
  intro s t
  rw [read_eq]
  split
  · intro h; cases h
  · split
    · intro h; cases h
    · split
      · intro h; cases h
      · omega
theorem word_num (s : Bool) {k : Nat} (h : k ≤ 9218868437227405312) : nanB (FloatKind.f64.format.word s k) = false ∧ FloatKind.f64.format.word s k < 18446744073709551616 := by
  have e : FloatKind.f64.format.word s k = if s then 9223372036854775808 + k else k := rfl
  unfold nanB
  rw [e, decide_eq_false_iff_not]
  split <;> omega
theorem nearest_num (s : Bool) (m : Nat) (e : Int) : nanB (FloatKind.f64.format.nearest s m e) = false ∧ FloatKind.f64.format.nearest s m e < 18446744073709551616 := by
  unfold Ieee.Format.nearest
  dsimp only
  split
  · exact word_num s (Nat.zero_le _)
  · exact word_num s (Nat.min_le_right _ 9218868437227405312)
theorem write_num (d : Ieee.Datum) (h : ∀ s t, d ≠ .nan s t) : nanB (FloatKind.f64.format.write d) = false ∧ FloatKind.f64.format.write d < 18446744073709551616 := by
  cases d with
  | nan s t => exact absurd rfl (h s t)
  | infinity s => exact word_num s (Nat.le_refl _)
  | number s m e => exact nearest_num s m e
theorem sum_num {a b d : Ieee.Datum} (h : a.sum b = some d) : ∀ s t, d ≠ .nan s t := by
  intro s t e
  subst e
  cases a <;> cases b <;> simp only [Ieee.Datum.sum] at h <;> first | cases h | (split at h <;> cases h)
theorem prod_num {a b d : Ieee.Datum} (h : a.product b = some d) : ∀ s t, d ≠ .nan s t := by
  intro s t e
  subst e
  cases a <;> cases b <;> simp only [Ieee.Datum.product] at h <;> first | cases h | (split at h <;> cases h)
theorem quot_num {k : Nat} {a b d : Ieee.Datum} (h : Ieee.Datum.quotient k a b = some d) : ∀ s t, d ≠ .nan s t := by
  intro s t e
  subst e
  cases a <;> cases b <;> simp only [Ieee.Datum.quotient] at h <;> first | cases h | (split at h <;> first | cases h | (split at h <;> cases h))
theorem opt_map {d : Option Ieee.Datum} {r : Nat} (hd : ∀ x, d = some x → ∀ s t, x ≠ .nan s t) (h : d.map FloatKind.f64.format.write = some r) : nanB r = false ∧ r < 18446744073709551616 := by
  cases d with
  | none => cases h
  | some x => cases h; exact write_num x (hd x rfl)
theorem floatBits_num {op : BinOp} {a b r : Nat} (h : floatBits op .f64 a b = some r) : nanB r = false ∧ r < 18446744073709551616 := by
  unfold floatBits at h
  split at h
  · exact opt_map (fun x hx => sum_num hx) h
  · exact opt_map (fun x hx => sum_num hx) h
  · exact opt_map (fun x hx => prod_num hx) h
  · exact opt_map (fun x hx => quot_num hx) h
  · cases h
theorem floatBits_left {op : BinOp} {a : Nat} (b : Nat) (h : nanB a = true) : floatBits op .f64 a b = none := by
  obtain ⟨s, t, hr⟩ := nan_read h
  unfold floatBits
  split
  · show Option.map _ ((FloatKind.f64.format.read a).sum _) = none; rw [hr]; rfl
  · show Option.map _ ((FloatKind.f64.format.read a).sum _) = none; rw [hr]; rfl
  · show Option.map _ ((FloatKind.f64.format.read a).product _) = none; rw [hr]; rfl
  · show Option.map _ (Ieee.Datum.quotient _ (FloatKind.f64.format.read a) _) = none; rw [hr]; rfl
  · rfl
theorem floatBits_right {op : BinOp} (a : Nat) {b : Nat} (h : nanB b = true) : floatBits op .f64 a b = none := by
  obtain ⟨s, t, hr⟩ := nan_read h
  unfold floatBits
  split
  · show Option.map _ ((FloatKind.f64.format.read a).sum (FloatKind.f64.format.read b)) = none; rw [hr]; cases FloatKind.f64.format.read a <;> rfl
  · show Option.map _ ((FloatKind.f64.format.read a).sum (FloatKind.f64.format.read b).opposite) = none; rw [hr]; cases FloatKind.f64.format.read a <;> rfl
  · show Option.map _ ((FloatKind.f64.format.read a).product (FloatKind.f64.format.read b)) = none; rw [hr]; cases FloatKind.f64.format.read a <;> rfl
  · show Option.map _ (Ieee.Datum.quotient _ (FloatKind.f64.format.read a) (FloatKind.f64.format.read b)) = none; rw [hr]; cases FloatKind.f64.format.read a <;> rfl
  · rfl
theorem word_inf (s : Bool) : infB (FloatKind.f64.format.word s 9218868437227405312) = true := by
  have e : FloatKind.f64.format.word s 9218868437227405312 = if s then 9223372036854775808 + 9218868437227405312 else 9218868437227405312 := rfl
  unfold infB
  rw [e, decide_eq_true_eq]
  split <;> omega
theorem add_inf {a b r : Nat} (h : floatBits .add .f64 a b = some r) (hi : infB a = true) : infB r = true := by
  obtain ⟨s, hr⟩ := inf_read hi
  have h' : Option.map FloatKind.f64.format.write ((FloatKind.f64.format.read a).sum (FloatKind.f64.format.read b)) = some r := h
  rw [hr] at h'
  cases hb : FloatKind.f64.format.read b with
  | nan s t => rw [hb] at h'; cases h'
  | number s m e => rw [hb] at h'; cases h'; exact word_inf _
  | infinity t =>
    rw [hb] at h'
    simp only [Ieee.Datum.sum] at h'
    split at h'
    · cases h'; exact word_inf _
    · cases h'
/-- What a value's number is: none, if it is none. -/
def inO (v : Nat) : Option Nat := if nanB v then none else some v
/-- These bits are of that number, or of none. -/
def IsO (o : Option Nat) (r : Nat) : Prop := o = inO r ∧ r < 18446744073709551616
def opO (op : BinOp) (x y : Option Nat) : Option Nat := x.bind fun a => y.bind fun b => floatBits op .f64 a b
theorem isO_num {r : Nat} (h : nanB r = false) (hr : r < 18446744073709551616) : IsO (some r) r := ⟨by unfold inO; rw [h]; rfl, hr⟩
theorem isO_nan {r : Nat} (h : nanB r = true) (hr : r < 18446744073709551616) : IsO none r := ⟨by unfold inO; rw [h]; rfl, hr⟩
theorem tell_isO {o : Option Nat} {r : Nat} (h : IsO o r) : tellN r = tellO o := by
  rw [h.1]; unfold inO tellN tellO
  split
  · rfl
  · rename_i hn; unfold tellN; simp [hn]
/-- One operation at a world: what it tells, and that it draws at most. -/
theorem run_op {P : Program} (w : World) {op : BinOp} (hop : op = .add ∨ op = .sub ∨ op = .mul ∨ op = .quo) (t : TypeId) {ox oy : Option Nat} {x y : Nat} (hx : IsO ox x) (hy : IsO oy y) :
    ∃ r n, (binOp op t (.float .f64 x) (.float .f64 y)).run P w = .ok (.float .f64 r) (w.drewN n) ∧ IsO (opO op ox oy) r := by
  have e : opO op ox oy = floatBits op .f64 x y := by
    rw [hx.1, hy.1]
    unfold inO opO
    cases h1 : nanB x with
    | true => rw [floatBits_left y h1]; rfl
    | false =>
      cases h2 : nanB y with
      | true => rw [floatBits_right x h2]; rfl
      | false => rfl
  rw [e]
  cases hf : floatBits op .f64 x y with
  | none => exact ⟨drawnNan w x y, 1, run_float_nan w op t x y hop hf, isO_nan (drawnNan_nan w x y) (drawnNan_lt w x y)⟩
  | some r => exact ⟨r, 0, run_float_arith w op t .f64 x y r hf, isO_num (floatBits_num hf).1 (floatBits_num hf).2⟩
/-- The order of two sizes. -/
def cmpO (x y : Option Nat) : Option Ordering := x.bind fun a => y.bind fun b => FloatKind.f64.format.order (a % 9223372036854775808) (b % 9223372036854775808)
theorem order_left {a : Nat} (b : Nat) (h : nanB a = true) : FloatKind.f64.format.order a b = none := by
  obtain ⟨s, t, hr⟩ := nan_read h
  show (FloatKind.f64.format.read a).order _ = none
  rw [hr]; rfl
theorem order_right (a : Nat) {b : Nat} (h : nanB b = true) : FloatKind.f64.format.order a b = none := by
  obtain ⟨s, t, hr⟩ := nan_read h
  show (FloatKind.f64.format.read a).order (FloatKind.f64.format.read b) = none
  rw [hr]; cases FloatKind.f64.format.read a <;> rfl
theorem order_num {a b : Nat} (ha : nanB a = false) (hb : nanB b = false) : ∃ o, FloatKind.f64.format.order a b = some o := by
  have h1 := num_read ha
  have h2 := num_read hb
  show ∃ o, (FloatKind.f64.format.read a).order (FloatKind.f64.format.read b) = some o
  generalize FloatKind.f64.format.read a = x at *
  generalize FloatKind.f64.format.read b = y at *
  cases x with
  | nan s t => exact absurd rfl (h1 s t)
  | number s m e => cases y with
    | nan s t => exact absurd rfl (h2 s t)
    | number t n j => exact ⟨_, rfl⟩
    | infinity t => exact ⟨_, rfl⟩
  | infinity s => cases y with
    | nan s t => exact absurd rfl (h2 s t)
    | number t n j => exact ⟨_, rfl⟩
    | infinity t => exact ⟨_, rfl⟩
theorem nan_size (v : Nat) : nanB (v % 9223372036854775808) = nanB v := by unfold nanB; rw [Nat.mod_mod]
theorem cmp_isO {ox oy : Option Nat} {x y : Nat} (hx : IsO ox x) (hy : IsO oy y) : FloatKind.f64.format.order (x % 9223372036854775808) (y % 9223372036854775808) = cmpO ox oy := by
  rw [hx.1, hy.1]
  unfold inO cmpO
  cases h1 : nanB x with
  | true => rw [order_left _ (by rw [nan_size, h1])]; rfl
  | false =>
    cases h2 : nanB y with
    | true => rw [order_right _ (by rw [nan_size, h2])]; rfl
    | false => rfl
/-- One step of the program's sum, and of the plain answers'. -/
def stepP (p : Option Nat × Option Nat) (x : Option Nat) : Option Nat × Option Nat :=
  let t := opO .add p.1 x
  (t, if cmpO p.1 x == some .lt then opO .add p.2 (opO .add (opO .sub x t) p.1) else opO .add p.2 (opO .add (opO .sub p.1 t) x))
def infO (o : Option Nat) : Bool := match o with | some v => infB v | none => false
def stepR (p : Option Nat × Option Nat) (x : Option Nat) : Option Nat × Option Nat :=
  let t := opO .add p.1 x
  let c := if cmpO p.1 x == some .gt || cmpO p.1 x == some .eq then opO .add p.2 (opO .add (opO .sub p.1 t) x) else opO .add p.2 (opO .add (opO .sub x t) p.1)
  (t, if infO t then some 0 else c)
def endO (p : Option Nat × Option Nat) : Nat := if infO p.1 then tellO p.1 else tellO (opO .add p.1 p.2)
def sumP (xs : List Nat) : Nat := endO ((xs.map inO).foldl stepP (some 0, some 0))
def sumR (xs : List Nat) : Nat := endO ((xs.map inO).foldl stepR (some 0, some 0))
/-- The sums are the same; what was rounded away is the same as long as the sum is finite. -/
def Alike (p q : Option Nat × Option Nat) : Prop := p.1 = q.1 ∧ (∀ v, p.1 = some v → nanB v = false) ∧ (p.1 = none ∨ infO p.1 = true ∨ p.2 = q.2)
theorem alike_step {p q : Option Nat × Option Nat} (h : Alike p q) (v : Nat) : Alike (stepP p (inO v)) (stepR q (inO v)) := by
  obtain ⟨h1, h2, h3⟩ := h
  obtain ⟨s, c⟩ := p
  obtain ⟨s', c'⟩ := q
  dsimp only at h1 h2 h3
  subst h1
  refine ⟨rfl, ?_, ?_⟩
  · intro r hr
    have hr' : opO .add s (inO v) = some r := hr
    cases s with
    | none => cases hr'
    | some a =>
      unfold inO at hr'
      cases hv : nanB v with
      | true => rw [hv] at hr'; cases hr'
      | false => rw [hv] at hr'; exact (floatBits_num (show floatBits .add .f64 a v = some r from hr')).1
  · show opO .add s (inO v) = none ∨ infO (opO .add s (inO v)) = true ∨ _
    cases s with
    | none => exact .inl rfl
    | some a =>
      have ha := h2 a rfl
      cases ht : opO .add (some a) (inO v) with
      | none => exact .inl rfl
      | some t =>
        cases hi : infO (some t) with
        | true => exact .inr (.inl rfl)
        | false =>
          refine .inr (.inr ?_)
          cases hv : nanB v with
          | true => unfold inO at ht; rw [hv] at ht; cases ht
          | false =>
            have hin : inO v = some v := by unfold inO; rw [hv]; rfl
            rw [hin] at ht
            have hfin : infB a = false := by
              cases hf : infB a with
              | false => rfl
              | true => have := add_inf (show floatBits .add .f64 a v = some t from ht) hf; rw [show infO (some t) = infB t from rfl, this] at hi; cases hi
            have hc : c = c' := by
              rcases h3 with h | h | h
              · cases h
              · rw [show infO (some a) = infB a from rfl, hfin] at h; cases h
              · exact h
            subst hc
            obtain ⟨o, ho⟩ := order_num (a := a % 9223372036854775808) (b := v % 9223372036854775808) (by rw [nan_size, ha]) (by rw [nan_size, hv])
            have hcmp : cmpO (some a) (some v) = some o := ho
            simp only [stepP, stepR, hin, ht, hi, hcmp]
            cases o <;> rfl
theorem alike_fold (xs : List Nat) {p q : Option Nat × Option Nat} (h : Alike p q) : Alike ((xs.map inO).foldl stepP p) ((xs.map inO).foldl stepR q) := by
  induction xs generalizing p q with
  | nil => exact h
  | cons x xs ih => exact ih (alike_step h x)
theorem sum_alike (xs : List Nat) : sumP xs = sumR xs := by
  have h := alike_fold xs (p := (some 0, some 0)) (q := (some 0, some 0)) ⟨rfl, fun v hv => by cases hv; rfl, .inr (.inr rfl)⟩
  unfold sumP sumR
  generalize (xs.map inO).foldl stepP (some 0, some 0) = p at *
  generalize (xs.map inO).foldl stepR (some 0, some 0) = q at *
  obtain ⟨h1, _, h3⟩ := h
  unfold endO
  rw [← h1]
  rcases h3 with h | h | h
  · rw [h]; rfl
  · rw [h]; rfl
  · rw [h]
end Go.Proofs.Ytlaodfkcfclpmaa
