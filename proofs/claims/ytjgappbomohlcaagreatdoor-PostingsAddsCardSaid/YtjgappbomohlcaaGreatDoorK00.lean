/-
  Numbers that rise, each once, plainly.
-/
import Derived.WalkKit
namespace Go.Proofs.YtjgappbomohlcaaGreatDoor
section
set_option linter.unusedVariables false
set_option linter.unusedSimpArgs false
/-- A rising list with a number, if it is not there. -/
def withN (l : List Nat) (n : Nat) : List Nat := if n ∈ l then l else l.filter (fun x => decide (x < n)) ++ n :: l.filter (fun x => decide (n < x))
def riseN (l : List Nat) : List Nat := l.foldl withN []
abbrev RisN (l : List Nat) : Prop := l.Pairwise (· < ·)
theorem withN_mem {l : List Nat} {n x : Nat} : x ∈ withN l n ↔ x = n ∨ x ∈ l := by
  unfold withN
  split
  · rename_i h
    constructor
    · exact .inr
    · rintro (rfl | h') <;> assumption
  · rename_i h
    simp only [List.mem_append, List.mem_cons, List.mem_filter, decide_eq_true_eq]
    constructor
    · rintro (⟨h1, _⟩ | rfl | ⟨h1, _⟩)
      · exact .inr h1
      · exact .inl rfl
      · exact .inr h1
    · rintro (rfl | h1)
      · exact .inr (.inl rfl)
      · rcases Nat.lt_trichotomy x n with h2 | h2 | h2
        · exact .inl ⟨h1, h2⟩
        · exact absurd (h2 ▸ h1) h
        · exact .inr (.inr ⟨h1, h2⟩)
theorem withN_ris {l : List Nat} (h : RisN l) (n : Nat) : RisN (withN l n) := by
  unfold withN
  split
  · exact h
  · unfold RisN
    rw [List.pairwise_append]
    refine ⟨h.filter _, ?_, ?_⟩
    · rw [List.pairwise_cons]
      exact ⟨fun x hx => by simpa using (List.mem_filter.1 hx).2, h.filter _⟩
    · intro x hx y hy
      have h1 : x < n := by simpa using (List.mem_filter.1 hx).2
      rcases List.mem_cons.1 hy with rfl | hy
      · exact h1
      · have h2 : n < y := by simpa using (List.mem_filter.1 hy).2
        omega
theorem foldN_mem (l : List Nat) : ∀ (a : List Nat) (x : Nat), x ∈ l.foldl withN a ↔ x ∈ a ∨ x ∈ l := by
  induction l with
  | nil => simp
  | cons y r ih => intro a x; rw [List.foldl_cons, ih, withN_mem, List.mem_cons, ← or_assoc, or_comm (a := x ∈ a)]
theorem foldN_ris (l : List Nat) : ∀ (a : List Nat), RisN a → RisN (l.foldl withN a) := by
  induction l with
  | nil => exact fun a h => h
  | cons y r ih => exact fun a h => ih _ (withN_ris h y)
theorem riseN_mem {l : List Nat} {x : Nat} : x ∈ riseN l ↔ x ∈ l := by unfold riseN; rw [foldN_mem]; simp
theorem riseN_ris (l : List Nat) : RisN (riseN l) := foldN_ris l [] List.Pairwise.nil
theorem ris_unique : ∀ {a b : List Nat}, RisN a → RisN b → (∀ x, x ∈ a ↔ x ∈ b) → a = b
  | [], [], _, _, _ => rfl
  | [], y :: b, _, _, h => by simpa using (h y).2 (by simp)
  | x :: a, [], _, _, h => by simpa using (h x).1 (by simp)
  | x :: a, y :: b, ha, hb, h => by
    have ha' := ha; have hb' := hb
    unfold RisN at ha' hb'
    rw [List.pairwise_cons] at ha' hb'
    have e : x = y := by
      have h1 := (h x).1 (by simp); have h2 := (h y).2 (by simp)
      rcases List.mem_cons.1 h1 with e | h1
      · exact e
      rcases List.mem_cons.1 h2 with e | h2
      · exact e.symm
      have := ha'.1 y h2; have := hb'.1 x h1; omega
    subst e
    rw [ris_unique ha'.2 hb'.2 fun z => ?_]
    have h3 := h z
    rw [List.mem_cons, List.mem_cons] at h3
    constructor
    · intro hz
      rcases h3.1 (.inr hz) with rfl | h4
      · exact absurd (ha'.1 z hz) (by omega)
      · exact h4
    · intro hz
      rcases h3.2 (.inr hz) with rfl | h4
      · exact absurd (hb'.1 z hz) (by omega)
      · exact h4
theorem rise_of {l m : List Nat} (h : RisN l) (hm : ∀ x, x ∈ l ↔ x ∈ m) : l = riseN m := ris_unique h (riseN_ris m) fun x => by rw [riseN_mem, hm]
theorem nodup_le {α : Type} [DecidableEq α] : ∀ {a b : List α}, a.Nodup → (∀ x ∈ a, x ∈ b) → a.length ≤ b.length
  | [], b, _, _ => Nat.zero_le _
  | x :: r, b, ha, h => by
    rw [List.nodup_cons] at ha
    have hx := h x List.mem_cons_self
    have := nodup_le (a := r) (b := b.erase x) ha.2 fun y hy => (List.mem_erase_of_ne (fun e : y = x => ha.1 (by rw [← e]; exact hy))).2 (h y (List.mem_cons_of_mem _ hy))
    rw [List.length_erase_of_mem hx] at this
    have := List.length_pos_of_mem hx
    rw [List.length_cons]; omega
theorem riseN_len (l : List Nat) : (riseN l).length ≤ l.length := nodup_le ((riseN_ris l).imp fun h => Nat.ne_of_lt h) fun x hx => riseN_mem.1 hx
def andN (a b : List Nat) : List Nat := riseN (a.filter fun n => decide (n ∈ b))
def orN (a b : List Nat) : List Nat := riseN (a ++ b)
def lessN (a b : List Nat) : List Nat := riseN (a.filter fun n => !decide (n ∈ b))
theorem andN_mem {a b : List Nat} {n : Nat} : n ∈ andN a b ↔ n ∈ a ∧ n ∈ b := by unfold andN; rw [riseN_mem, List.mem_filter]; simp
theorem orN_mem {a b : List Nat} {n : Nat} : n ∈ orN a b ↔ n ∈ a ∨ n ∈ b := by unfold orN; rw [riseN_mem, List.mem_append]
theorem lessN_mem {a b : List Nat} {n : Nat} : n ∈ lessN a b ↔ n ∈ a ∧ n ∉ b := by unfold lessN; rw [riseN_mem, List.mem_filter]; simp
theorem andN_len (a b : List Nat) : (andN a b).length ≤ a.length := Nat.le_trans (riseN_len _) (List.length_filter_le _ _)
theorem orN_len (a b : List Nat) : (orN a b).length ≤ a.length + b.length := by have := riseN_len (a ++ b); rw [List.length_append] at this; exact this
theorem lessN_len (a b : List Nat) : (lessN a b).length ≤ a.length := Nat.le_trans (riseN_len _) (List.length_filter_le _ _)
end
end Go.Proofs.YtjgappbomohlcaaGreatDoor
