/-
  Lists of points, plainly: a point is its time, its value and the number of its write. Which of two counts, right lists, places, what is put, what is merged, and what follows of that. Nothing here speaks of the program.
-/
import Derived.Test.YtinjdlplbficiaaGen
namespace Go.Proofs.Ytinjdlplbficiaa
set_option linter.unusedVariables false
set_option linter.unusedSimpArgs false

/-- A point: its time, its value, its write. -/
abbrev Pt := Int × Int × Int
def aheadB (p q : Pt) : Bool := decide (p.2.2 < q.2.2) || (decide (p.2.2 = q.2.2) && decide (p.2.1 < q.2.1))
/-- Of two points of one time the one that counts. -/
def cntP (p q : Pt) : Pt := if aheadB q p then q else p
theorem ahead_iff (p q : Pt) : aheadB p q = true ↔ p.2.2 < q.2.2 ∨ p.2.2 = q.2.2 ∧ p.2.1 < q.2.1 := by simp [aheadB]
theorem ahead_not (p q : Pt) : aheadB p q = false ↔ q.2.2 < p.2.2 ∨ q.2.2 = p.2.2 ∧ q.2.1 ≤ p.2.1 := by
  rw [← Bool.not_eq_true, ahead_iff]; omega
theorem cnt_time {p q : Pt} (h : p.1 = q.1) : (cntP p q).1 = p.1 := by unfold cntP; split <;> simp [h]
theorem cnt_or (p q : Pt) : cntP p q = p ∨ cntP p q = q := by unfold cntP; split <;> simp
theorem pt_ext {p q : Pt} (h1 : p.1 = q.1) (h2 : p.2.1 = q.2.1) (h3 : p.2.2 = q.2.2) : p = q := by
  obtain ⟨a, b, c⟩ := p; obtain ⟨a', b', c'⟩ := q; simp at h1 h2 h3; simp [h1, h2, h3]
theorem cnt_comm {p q : Pt} (h : p.1 = q.1) : cntP p q = cntP q p := by
  unfold cntP
  cases h1 : aheadB q p <;> cases h2 : aheadB p q
  · rw [ahead_not] at h1 h2; simp; exact pt_ext h (by omega) (by omega)
  · rfl
  · rfl
  · rw [ahead_iff] at h1 h2; omega
/-- The document's plain choice is the same one. -/
theorem cnt_least {p q : Pt} (h : p.1 = q.1) : (if aheadB p q then p else q) = cntP p q := by
  rw [cnt_comm h]; rfl
theorem cnt_none (p q : Pt) : aheadB p (cntP p q) = false ∧ aheadB q (cntP p q) = false := by
  unfold cntP
  split
  · rename_i h; rw [ahead_iff] at h; rw [ahead_not, ahead_not]; omega
  · rename_i h; rw [Bool.not_eq_true] at h; refine ⟨?_, h⟩; rw [ahead_not]; omega

/-- In order, each with a number, from a time on. -/
def chainB : Option Int → List Pt → Bool
  | _, [] => true
  | o, p :: r => decide (p.2.2 ≠ 0) && (match o with | none => true | some x => decide (x < p.1)) && chainB (some p.1) r
def rightB (l : List Pt) : Bool := decide (l.length ≤ 65536) && chainB none l
def Srt (l : List Pt) : Prop := l.Pairwise fun p q => p.1 < q.1
theorem chain_some : ∀ (l : List Pt) (x : Int), chainB (some x) l = true ↔ (∀ p ∈ l, p.2.2 ≠ 0 ∧ x < p.1) ∧ Srt l
  | [], x => by simp [chainB, Srt]
  | p :: r, x => by
    unfold chainB Srt
    rw [Bool.and_eq_true, Bool.and_eq_true, chain_some r, List.pairwise_cons]
    simp only [decide_eq_true_eq, List.mem_cons, forall_eq_or_imp]
    constructor
    · rintro ⟨⟨h1, h2⟩, h3, h4⟩
      exact ⟨⟨⟨h1, h2⟩, fun q hq => ⟨(h3 q hq).1, Int.lt_trans h2 (h3 q hq).2⟩⟩, fun q hq => (h3 q hq).2, h4⟩
    · rintro ⟨⟨⟨h1, h2⟩, h3⟩, h4, h5⟩
      exact ⟨⟨h1, h2⟩, fun q hq => ⟨(h3 q hq).1, h4 q hq⟩, h5⟩
theorem chain_none (l : List Pt) : chainB none l = true ↔ (∀ p ∈ l, p.2.2 ≠ 0) ∧ Srt l := by
  cases l with
  | nil => simp [chainB, Srt]
  | cons p r =>
    unfold chainB Srt
    rw [Bool.and_eq_true, Bool.and_eq_true, chain_some r, List.pairwise_cons]
    simp only [decide_eq_true_eq, List.mem_cons, forall_eq_or_imp]
    constructor
    · rintro ⟨⟨h1, _⟩, h3, h4⟩; exact ⟨⟨h1, fun q hq => (h3 q hq).1⟩, fun q hq => (h3 q hq).2, h4⟩
    · rintro ⟨⟨h1, h3⟩, h4, h5⟩; exact ⟨⟨h1, trivial⟩, fun q hq => ⟨h3 q hq, h4 q hq⟩, h5⟩
theorem right_iff (l : List Pt) : rightB l = true ↔ l.length ≤ 65536 ∧ (∀ p ∈ l, p.2.2 ≠ 0) ∧ Srt l := by
  unfold rightB; rw [Bool.and_eq_true, decide_eq_true_eq, chain_none]

/-- Two lists in order that have the same points are the same. -/
theorem srt_ext : ∀ (a b : List Pt), Srt a → Srt b → (∀ p, p ∈ a ↔ p ∈ b) → a = b
  | [], [], _, _, _ => rfl
  | [], q :: b, _, _, h => by have := (h q).2 (by simp); simp at this
  | p :: a, [], _, _, h => by have := (h p).1 (by simp); simp at this
  | p :: a, q :: b, ha, hb, h => by
    unfold Srt at ha hb
    rw [List.pairwise_cons] at ha hb
    have e : p = q := by
      rcases List.mem_cons.1 ((h p).1 (by simp)) with e | h1
      · exact e
      rcases List.mem_cons.1 ((h q).2 (by simp)) with e | h2
      · exact e.symm
      have := hb.1 p h1; have := ha.1 q h2; omega
    subst e
    rw [srt_ext a b ha.2 hb.2 fun x => ?_]
    constructor
    · intro hx
      rcases List.mem_cons.1 ((h x).1 (by simp [hx])) with e | h1
      · subst e; exact absurd (ha.1 x hx) (Int.lt_irrefl _)
      · exact h1
    · intro hx
      rcases List.mem_cons.1 ((h x).2 (by simp [hx])) with e | h1
      · subst e; exact absurd (hb.1 x hx) (Int.lt_irrefl _)
      · exact h1
theorem srt_one {l : List Pt} (h : Srt l) {p q : Pt} (hp : p ∈ l) (hq : q ∈ l) (e : p.1 = q.1) : p = q := by
  induction l with
  | nil => simp at hp
  | cons x r ih =>
    unfold Srt at h; rw [List.pairwise_cons] at h
    rcases List.mem_cons.1 hp with h1 | h1
    · rcases List.mem_cons.1 hq with h2 | h2
      · rw [h1, h2]
      · have := h.1 q h2; rw [← h1] at this; omega
    · rcases List.mem_cons.1 hq with h2 | h2
      · have := h.1 p h1; rw [← h2] at this; omega
      · exact ih h.2 h1 h2

/-- Two lists merged. -/
def mergeL : List Pt → List Pt → List Pt
  | [], b => b
  | p :: a, [] => p :: a
  | p :: a, q :: b => if p.1 < q.1 then p :: mergeL a (q :: b) else if q.1 < p.1 then q :: mergeL (p :: a) b else cntP p q :: mergeL a b
termination_by a b => a.length + b.length
theorem merge_nil (a : List Pt) : mergeL a [] = a := by cases a <;> simp [mergeL]
theorem merge_len : ∀ (a b : List Pt), (mergeL a b).length ≤ a.length + b.length
  | [], b => by simp [mergeL]
  | p :: a, [] => by simp [mergeL]
  | p :: a, q :: b => by
    have h1 := merge_len a (q :: b); have h2 := merge_len (p :: a) b; have h3 := merge_len a b
    rw [mergeL]
    split
    · simp at h1 ⊢; omega
    split
    · simp at h2 ⊢; omega
    · simp at h3 ⊢; omega
termination_by a b => a.length + b.length
theorem merge_from : ∀ (a b : List Pt) (x : Pt), x ∈ mergeL a b → x ∈ a ∨ x ∈ b
  | [], b, x, h => by simp [mergeL] at h; exact .inr h
  | p :: a, [], x, h => by simp [mergeL] at h; left; simpa using h
  | p :: a, q :: b, x, h => by
    rw [mergeL] at h
    split at h
    · rcases List.mem_cons.1 h with rfl | h
      · simp
      · rcases merge_from a (q :: b) x h with h | h
        · simp [h]
        · exact .inr h
    split at h
    · rcases List.mem_cons.1 h with rfl | h
      · simp
      · rcases merge_from (p :: a) b x h with h | h
        · exact .inl h
        · simp [h]
    · rcases List.mem_cons.1 h with rfl | h
      · rcases cnt_or p q with e | e <;> rw [e] <;> simp
      · rcases merge_from a b x h with h | h
        · simp [h]
        · simp [h]
termination_by a b => a.length + b.length
/-- What counts among points: none of the same time is ahead. -/
def Best (S : Pt → Prop) (p : Pt) : Prop := S p ∧ ∀ q, S q → q.1 = p.1 → aheadB q p = false
theorem best_one {S : Pt → Prop} {p q : Pt} (hp : Best S p) (hq : Best S q) (e : p.1 = q.1) : p = q := by
  have h1 := hp.2 q hq.1 e.symm
  have h2 := hq.2 p hp.1 e
  rw [ahead_not] at h1 h2
  exact pt_ext e (by omega) (by omega)
theorem merge_srt : ∀ (a b : List Pt), Srt a → Srt b → Srt (mergeL a b)
  | [], b, _, hb => by simpa [mergeL] using hb
  | p :: a, [], ha, _ => by simpa [mergeL] using ha
  | p :: a, q :: b, ha, hb => by
    have ha' := ha; have hb' := hb
    unfold Srt at ha hb
    rw [List.pairwise_cons] at ha hb
    rw [mergeL]
    split
    · rename_i h
      unfold Srt; rw [List.pairwise_cons]
      refine ⟨fun x hx => ?_, merge_srt a (q :: b) ha.2 hb'⟩
      rcases merge_from _ _ _ hx with h1 | h1
      · exact ha.1 x h1
      · rcases List.mem_cons.1 h1 with rfl | h1
        · exact h
        · have := hb.1 x h1; omega
    split
    · rename_i h0 h
      unfold Srt; rw [List.pairwise_cons]
      refine ⟨fun x hx => ?_, merge_srt (p :: a) b ha' hb.2⟩
      rcases merge_from _ _ _ hx with h1 | h1
      · rcases List.mem_cons.1 h1 with rfl | h1
        · exact h
        · have := ha.1 x h1; omega
      · exact hb.1 x h1
    · rename_i h0 h
      unfold Srt; rw [List.pairwise_cons]
      refine ⟨fun x hx => ?_, merge_srt a b ha.2 hb.2⟩
      have e := cnt_time (show p.1 = q.1 by omega)
      rcases merge_from _ _ _ hx with h1 | h1
      · have := ha.1 x h1; omega
      · have := hb.1 x h1; omega
termination_by a b => a.length + b.length
/-- What a merge has: of all points of both those that count. -/
theorem merge_mem : ∀ (a b : List Pt), Srt a → Srt b → ∀ x, x ∈ mergeL a b ↔ Best (fun y => y ∈ a ∨ y ∈ b) x
  | [], b, _, hb, x => by
    simp only [mergeL, List.not_mem_nil, false_or]
    refine ⟨fun h => ⟨h, fun q hq e => ?_⟩, fun h => h.1⟩
    rw [srt_one hb hq h e]; rw [ahead_not]; omega
  | p :: a, [], ha, _, x => by
    simp only [mergeL, List.not_mem_nil, or_false]
    refine ⟨fun h => ⟨h, fun q hq e => ?_⟩, fun h => h.1⟩
    rw [srt_one ha hq h e]; rw [ahead_not]; omega
  | p :: a, q :: b, ha, hb, x => by
    have ha' := ha; have hb' := hb
    have i1 := merge_mem a (q :: b) ; have i2 := merge_mem (p :: a) b; have i3 := merge_mem a b
    unfold Srt at ha hb
    rw [List.pairwise_cons] at ha hb
    rw [mergeL]
    split
    · rename_i h
      rw [List.mem_cons, i1 ha.2 hb' x]
      constructor
      · rintro (rfl | ⟨h1, h2⟩)
        · refine ⟨by simp, fun y hy e => ?_⟩
          have : y = x := by
            rcases hy with hy | hy
            · exact srt_one ha' hy (by simp) e
            · rcases List.mem_cons.1 hy with rfl | hy
              · omega
              · have := hb.1 y hy; omega
          rw [this, ahead_not]; omega
        · refine ⟨?_, fun y hy e => ?_⟩
          · rcases h1 with h1 | h1
            · simp [h1]
            · exact .inr h1
          · rcases hy with hy | hy
            · rcases List.mem_cons.1 hy with rfl | hy
              · exfalso
                rcases h1 with h1 | h1
                · have := ha.1 x h1; omega
                · rcases List.mem_cons.1 h1 with rfl | h1
                  · omega
                  · have := hb.1 x h1; omega
              · exact h2 y (.inl hy) e
            · exact h2 y (.inr hy) e
      · rintro ⟨h1, h2⟩
        rcases h1 with h1 | h1
        · rcases List.mem_cons.1 h1 with h1 | h1
          · exact .inl h1
          · exact .inr ⟨.inl h1, fun y hy e => h2 y (by rcases hy with hy | hy; exact .inl (by simp [hy]); exact .inr hy) e⟩
        · exact .inr ⟨.inr h1, fun y hy e => h2 y (by rcases hy with hy | hy; exact .inl (by simp [hy]); exact .inr hy) e⟩
    split
    · rename_i h0 h
      rw [List.mem_cons, i2 ha' hb.2 x]
      constructor
      · rintro (rfl | ⟨h1, h2⟩)
        · refine ⟨by simp, fun y hy e => ?_⟩
          have : y = x := by
            rcases hy with hy | hy
            · rcases List.mem_cons.1 hy with rfl | hy
              · omega
              · have := ha.1 y hy; omega
            · exact srt_one hb' hy (by simp) e
          rw [this, ahead_not]; omega
        · refine ⟨?_, fun y hy e => ?_⟩
          · rcases h1 with h1 | h1
            · exact .inl h1
            · simp [h1]
          · rcases hy with hy | hy
            · exact h2 y (.inl hy) e
            · rcases List.mem_cons.1 hy with rfl | hy
              · exfalso
                rcases h1 with h1 | h1
                · rcases List.mem_cons.1 h1 with rfl | h1
                  · omega
                  · have := ha.1 x h1; omega
                · have := hb.1 x h1; omega
              · exact h2 y (.inr hy) e
      · rintro ⟨h1, h2⟩
        rcases h1 with h1 | h1
        · exact .inr ⟨.inl h1, fun y hy e => h2 y (by rcases hy with hy | hy; exact .inl hy; exact .inr (by simp [hy])) e⟩
        · rcases List.mem_cons.1 h1 with h1 | h1
          · exact .inl h1
          · exact .inr ⟨.inr h1, fun y hy e => h2 y (by rcases hy with hy | hy; exact .inl hy; exact .inr (by simp [hy])) e⟩
    · rename_i h0 h
      have epq : p.1 = q.1 := by omega
      have ec := cnt_time epq
      rw [List.mem_cons, i3 ha.2 hb.2 x]
      constructor
      · rintro (rfl | ⟨h1, h2⟩)
        · refine ⟨by rcases cnt_or p q with e | e <;> rw [e] <;> simp, fun y hy e => ?_⟩
          have := cnt_none p q
          rcases hy with hy | hy
          · rw [srt_one ha' hy (by simp : p ∈ p :: a) (by omega)]; exact this.1
          · rw [srt_one hb' hy (by simp : q ∈ q :: b) (by omega)]; exact this.2
        · refine ⟨?_, fun y hy e => ?_⟩
          · rcases h1 with h1 | h1 <;> simp [h1]
          · have hx : p.1 < x.1 := by
              rcases h1 with h1 | h1
              · exact ha.1 x h1
              · have := hb.1 x h1; omega
            rcases hy with hy | hy
            · rcases List.mem_cons.1 hy with rfl | hy
              · omega
              · exact h2 y (.inl hy) e
            · rcases List.mem_cons.1 hy with rfl | hy
              · omega
              · exact h2 y (.inr hy) e
      · rintro ⟨h1, h2⟩
        by_cases ex : x.1 = p.1
        · left
          have hp := h2 p (by simp) ex.symm
          have hq := h2 q (by simp) (by omega)
          have : x = p ∨ x = q := by
            rcases h1 with h1 | h1
            · exact .inl (srt_one ha' h1 (by simp) ex)
            · exact .inr (srt_one hb' h1 (by simp) (by omega))
          unfold cntP
          rcases this with rfl | rfl
          · rw [hq]; rfl
          · cases hqp : aheadB x p
            · rw [ahead_not] at hqp hp; simp; exact pt_ext ex (by omega) (by omega)
            · rfl
        · right
          refine ⟨?_, fun y hy e => h2 y (by rcases hy with hy | hy <;> simp [hy]) e⟩
          rcases h1 with h1 | h1
          · rcases List.mem_cons.1 h1 with rfl | h1
            · exact absurd rfl ex
            · exact .inl h1
          · rcases List.mem_cons.1 h1 with rfl | h1
            · exact absurd epq.symm ex
            · exact .inr h1
termination_by a b => a.length + b.length

theorem srt_nil : Srt [] := List.Pairwise.nil
theorem srt_single (p : Pt) : Srt [p] := List.pairwise_singleton _ _
theorem srt_filter {l : List Pt} (h : Srt l) (f : Pt → Bool) : Srt (l.filter f) := List.Pairwise.sublist List.filter_sublist h
theorem best_congr {S U : Pt → Prop} (h : ∀ y, S y ↔ U y) (x : Pt) : Best S x ↔ Best U x := by
  unfold Best
  exact ⟨fun ⟨a, b⟩ => ⟨(h x).1 a, fun q hq => b q ((h q).2 hq)⟩, fun ⟨a, b⟩ => ⟨(h x).2 a, fun q hq => b q ((h q).1 hq)⟩⟩
/-- What counts among what counts and others counts among all. -/
theorem best_nest {S U : Pt → Prop} (hex : ∀ y, S y → ∃ z, Best S z ∧ z.1 = y.1) (x : Pt) : Best (fun y => Best S y ∨ U y) x ↔ Best (fun y => S y ∨ U y) x := by
  constructor
  · rintro ⟨h1, h2⟩
    refine ⟨h1.imp (·.1) id, fun y hy e => ?_⟩
    rcases hy with hy | hy
    · obtain ⟨z, hz, ez⟩ := hex y hy
      have a1 := h2 z (.inl hz) (by omega)
      have a2 := hz.2 y hy ez.symm
      rw [ahead_not] at a1 a2 ⊢; omega
    · exact h2 y (.inr hy) e
  · rintro ⟨h1, h2⟩
    refine ⟨?_, fun y hy e => h2 y (hy.imp (·.1) id) e⟩
    rcases h1 with h1 | h1
    · exact .inl ⟨h1, fun q hq e => h2 q (.inl hq) e⟩
    · exact .inr h1
theorem best_two {a b : List Pt} (ha : Srt a) (hb : Srt b) (y : Pt) (hy : y ∈ a ∨ y ∈ b) : ∃ z, Best (fun y => y ∈ a ∨ y ∈ b) z ∧ z.1 = y.1 := by
  by_cases h : ∃ p q, p ∈ a ∧ q ∈ b ∧ p.1 = y.1 ∧ q.1 = y.1
  · obtain ⟨p, q, hp, hq, ep, eq⟩ := h
    have ec := cnt_time (show p.1 = q.1 by omega)
    refine ⟨cntP p q, ⟨by rcases cnt_or p q with e | e <;> rw [e] <;> simp [hp, hq], fun x hx e => ?_⟩, by omega⟩
    have := cnt_none p q
    rcases hx with hx | hx
    · rw [srt_one ha hx hp (by omega)]; exact this.1
    · rw [srt_one hb hx hq (by omega)]; exact this.2
  · refine ⟨y, ⟨hy, fun x hx e => ?_⟩, rfl⟩
    have : x = y := by
      rcases hy with hy | hy <;> rcases hx with hx | hx
      · exact srt_one ha hx hy e
      · exact absurd ⟨y, x, hy, hx, rfl, e⟩ h
      · exact absurd ⟨x, y, hx, hy, e, rfl⟩ h
      · exact srt_one hb hx hy e
    rw [this, ahead_not]; omega
theorem merge_comm {a b : List Pt} (ha : Srt a) (hb : Srt b) : mergeL a b = mergeL b a :=
  srt_ext _ _ (merge_srt a b ha hb) (merge_srt b a hb ha) fun x => by
    rw [merge_mem a b ha hb, merge_mem b a hb ha]; exact best_congr (fun y => Or.comm) x
theorem merge_idem {a : List Pt} (ha : Srt a) : mergeL a a = a :=
  srt_ext _ _ (merge_srt a a ha ha) ha fun x => by
    rw [merge_mem a a ha ha]
    refine ⟨fun h => h.1.elim id id, fun h => ⟨.inl h, fun q hq e => ?_⟩⟩
    rw [srt_one ha (hq.elim id id) h e, ahead_not]; omega
theorem merge_assoc {a b c : List Pt} (ha : Srt a) (hb : Srt b) (hc : Srt c) : mergeL (mergeL a b) c = mergeL a (mergeL b c) :=
  srt_ext _ _ (merge_srt _ _ (merge_srt a b ha hb) hc) (merge_srt _ _ ha (merge_srt b c hb hc)) fun x => by
    rw [merge_mem _ _ (merge_srt a b ha hb) hc, merge_mem _ _ ha (merge_srt b c hb hc)]
    rw [best_congr (U := fun y => Best (fun y => y ∈ a ∨ y ∈ b) y ∨ y ∈ c) (fun y => by rw [merge_mem a b ha hb])]
    rw [best_nest (fun y hy => best_two ha hb y hy)]
    rw [best_congr (S := fun y => y ∈ a ∨ y ∈ mergeL b c) (U := fun y => Best (fun y => y ∈ b ∨ y ∈ c) y ∨ y ∈ a) (fun y => by rw [merge_mem b c hb hc]; exact Or.comm)]
    rw [best_nest (fun y hy => best_two hb hc y hy)]
    exact best_congr (fun y => by constructor <;> (rintro ((h | h) | h) <;> simp [h])) x
/-- Of what is asked so that with a point all that count rather are asked, too: part of a merge is the merge of the parts. -/
theorem merge_filter {a b : List Pt} (ha : Srt a) (hb : Srt b) (f : Pt → Bool) (hf : ∀ p q : Pt, q.1 = p.1 → aheadB q p = true → f p = true → f q = true) :
    (mergeL a b).filter f = mergeL (a.filter f) (b.filter f) :=
  srt_ext _ _ (srt_filter (merge_srt a b ha hb) f) (merge_srt _ _ (srt_filter ha f) (srt_filter hb f)) fun x => by
    rw [List.mem_filter, merge_mem a b ha hb, merge_mem _ _ (srt_filter ha f) (srt_filter hb f)]
    constructor
    · rintro ⟨⟨h1, h2⟩, h3⟩
      refine ⟨by rcases h1 with h1 | h1 <;> simp [List.mem_filter, h1, h3], fun q hq e => h2 q ?_ e⟩
      rcases hq with hq | hq
      · exact .inl (List.mem_filter.1 hq).1
      · exact .inr (List.mem_filter.1 hq).1
    · rintro ⟨h1, h2⟩
      have h3 : f x = true := by rcases h1 with h1 | h1 <;> exact (List.mem_filter.1 h1).2
      refine ⟨⟨by rcases h1 with h1 | h1; exact .inl (List.mem_filter.1 h1).1; exact .inr (List.mem_filter.1 h1).1, fun q hq e => ?_⟩, h3⟩
      cases hq' : aheadB q x with
      | false => rfl
      | true =>
        have fq := hf x q e hq' h3
        rw [← hq']
        exact h2 q (by rcases hq with hq | hq <;> simp [List.mem_filter, hq, fq]) e
theorem merge_nums {a b : List Pt} (ha : ∀ p ∈ a, p.2.2 ≠ 0) (hb : ∀ p ∈ b, p.2.2 ≠ 0) : ∀ p ∈ mergeL a b, p.2.2 ≠ 0 := fun p hp =>
  (merge_from a b p hp).elim (ha p) (hb p)
theorem merge_right {a b : List Pt} (ha : rightB a = true) (hb : rightB b = true) (hl : (mergeL a b).length ≤ 65536) : rightB (mergeL a b) = true := by
  rw [right_iff] at ha hb ⊢
  exact ⟨hl, merge_nums ha.2.1 hb.2.1, merge_srt a b ha.2.2 hb.2.2⟩

/-- The place of the first point that is not below a time. -/
def findP (l : List Pt) (t : Int) : Nat := (l.takeWhile fun p => decide (p.1 < t)).length
theorem find_le (l : List Pt) (t : Int) : findP l t ≤ l.length := by unfold findP; exact (List.takeWhile_prefix _).length_le
theorem find_nil (t : Int) : findP [] t = 0 := rfl
theorem find_lt {p : Pt} {t : Int} (l : List Pt) (h : p.1 < t) : findP (p :: l) t = findP l t + 1 := by simp [findP, List.takeWhile_cons, h]
theorem find_ge {p : Pt} {t : Int} (l : List Pt) (h : ¬ p.1 < t) : findP (p :: l) t = 0 := by simp [findP, List.takeWhile_cons, h]
def isAt (l : List Pt) (t : Int) : Bool := match l[findP l t]? with | some q => decide (q.1 = t) | none => false
theorem find_mem : ∀ {l : List Pt}, Srt l → ∀ {q : Pt}, q ∈ l → l[findP l q.1]? = some q
  | [], _, q, h => by simp at h
  | x :: r, hs, q, h => by
    have hs' := hs
    unfold Srt at hs; rw [List.pairwise_cons] at hs
    rcases List.mem_cons.1 h with rfl | h
    · rw [find_ge r (Int.lt_irrefl _)]; rfl
    · rw [find_lt r (hs.1 q h), List.getElem?_cons_succ]; exact find_mem hs.2 h
/-- A list with a point more. -/
def withP (l : List Pt) (p : Pt) : List Pt := match l[findP l p.1]? with
  | some q => if q.1 = p.1 then l.take (findP l p.1) ++ cntP p q :: l.drop (findP l p.1 + 1) else l.take (findP l p.1) ++ p :: l.drop (findP l p.1)
  | none => l.take (findP l p.1) ++ p :: l.drop (findP l p.1)
theorem with_merge : ∀ (l : List Pt) (p : Pt), withP l p = mergeL l [p]
  | [], p => by simp [withP, findP, mergeL]
  | x :: r, p => by
    have ih := with_merge r p
    unfold withP at ih ⊢
    rw [mergeL]
    by_cases h : x.1 < p.1
    · rw [find_lt r h, List.getElem?_cons_succ, if_pos h, ← ih]
      simp only [List.take_succ_cons, List.drop_succ_cons, List.cons_append]
      cases r[findP r p.1]? with
      | none => rfl
      | some q => simp only; split <;> rfl
    · rw [find_ge r h, if_neg h]
      simp only [List.getElem?_cons_zero, List.take_zero, List.nil_append, List.drop_zero, Nat.zero_add, List.drop_succ_cons]
      by_cases e : x.1 = p.1
      · rw [if_pos e, if_neg (by omega), cnt_comm e.symm, merge_nil]
      · rw [if_neg e, if_pos (by omega), merge_nil]

/-- What a list's points that were put one by one are: those that count of all. -/
structure Folds (S : Pt → Prop) (a : List Pt) : Prop where
  srt : Srt a
  num : ∀ p ∈ a, p.2.2 ≠ 0
  mem : ∀ x, x ∈ a ↔ Best S x
  has : ∀ y, S y → ∃ z, Best S z ∧ z.1 = y.1
theorem Folds.nil : Folds (fun _ => False) [] := ⟨srt_nil, by simp, fun x => by simp [Best], fun y h => h.elim⟩
theorem Folds.put {S : Pt → Prop} {a : List Pt} (h : Folds S a) {p : Pt} (hp : p.2.2 ≠ 0) : Folds (fun y => S y ∨ y = p) (mergeL a [p]) := by
  have hm : ∀ x, x ∈ mergeL a [p] ↔ Best (fun y => S y ∨ y = p) x := fun x => by
    rw [merge_mem a [p] h.srt (srt_single p)]
    rw [best_congr (U := fun y => Best S y ∨ y = p) (fun y => by rw [h.mem]; simp)]
    exact best_nest h.has x
  refine ⟨merge_srt _ _ h.srt (srt_single p), merge_nums h.num (by simpa using hp), hm, fun y hy => ?_⟩
  have : ∃ y', (y' ∈ a ∨ y' ∈ [p]) ∧ y'.1 = y.1 := by
    rcases hy with hy | rfl
    · obtain ⟨z, hz, e⟩ := h.has y hy; exact ⟨z, .inl ((h.mem z).2 hz), e⟩
    · exact ⟨y, .inr (by simp), rfl⟩
  obtain ⟨y', hy', e'⟩ := this
  obtain ⟨z, hz, e⟩ := best_two h.srt (srt_single p) y' hy'
  exact ⟨z, (hm z).1 ((merge_mem a [p] h.srt (srt_single p) z).2 hz), by omega⟩
theorem Folds.congr {S U : Pt → Prop} {a : List Pt} (h : Folds S a) (e : ∀ y, S y ↔ U y) : Folds U a :=
  ⟨h.srt, h.num, fun x => (h.mem x).trans (best_congr e x), fun y hy => by obtain ⟨z, hz, ez⟩ := h.has y ((e y).2 hy); exact ⟨z, (best_congr e z).1 hz, ez⟩⟩
theorem Folds.same {S : Pt → Prop} {a b : List Pt} (h : Folds S a) (k : Folds S b) : a = b := srt_ext a b h.srt k.srt fun x => (h.mem x).trans (k.mem x).symm
theorem Folds.right {S : Pt → Prop} {a : List Pt} (h : Folds S a) (hl : a.length ≤ 65536) : rightB a = true := by rw [right_iff]; exact ⟨hl, h.num, h.srt⟩

/-- A point that was put: one of its time is there; of all others the list is as it was. -/
theorem put_here {l : List Pt} (hl : Srt l) (p : Pt) : (mergeL l [p]).filter (fun q => decide (q.1 = p.1)) = [match l[findP l p.1]? with | some q => if q.1 = p.1 then cntP p q else p | none => p] := by
  rw [merge_filter hl (srt_single p) _ (fun a b e _ h => by simp at h ⊢; omega)]
  have hp : [p].filter (fun q => decide (q.1 = p.1)) = [p] := by simp
  rw [hp]
  by_cases h : ∃ q ∈ l, q.1 = p.1
  · obtain ⟨q, hq, e⟩ := h
    have hf := find_mem hl hq
    rw [e] at hf
    rw [hf]; simp only [e, if_true]
    have : l.filter (fun q => decide (q.1 = p.1)) = [q] := by
      refine srt_ext _ _ (srt_filter hl _) (srt_single q) fun x => ?_
      simp only [List.mem_filter, decide_eq_true_eq, List.mem_singleton]
      exact ⟨fun ⟨h1, h2⟩ => srt_one hl h1 hq (by omega), fun h => by subst h; exact ⟨hq, e⟩⟩
    rw [this, mergeL, if_neg (by omega), if_neg (by omega), cnt_comm e]; simp [mergeL]
  · have : l.filter (fun q => decide (q.1 = p.1)) = [] := by
      rw [List.filter_eq_nil_iff]; intro q hq; simp; exact fun e => h ⟨q, hq, e⟩
    rw [this]; simp only [mergeL]
    cases hg : l[findP l p.1]? with
    | none => rfl
    | some q =>
      have hq := List.mem_of_getElem? hg
      simp only [if_neg (fun e => h ⟨q, hq, e⟩)]
theorem put_others {l : List Pt} (hl : Srt l) (p : Pt) : (mergeL l [p]).filter (fun q => decide (q.1 ≠ p.1)) = l.filter (fun q => decide (q.1 ≠ p.1)) := by
  rw [merge_filter hl (srt_single p) _ (fun a b e _ h => by simp at h ⊢; omega)]
  have hp : [p].filter (fun q => decide (q.1 ≠ p.1)) = [] := by simp
  rw [hp, merge_nil]

/-- What a point came to where another one had its time. -/
def codeP (p q : Pt) : Int := if p.2.1 = q.2.1 then 2 else if aheadB p q then 3 else 4
theorem code_kept {p q : Pt} (h : p.2.1 ≠ q.2.1) (e : p.1 = q.1) : cntP p q = p ↔ aheadB p q = true := by
  unfold cntP
  cases h1 : aheadB q p with
  | true =>
    rw [ahead_iff] at h1
    rw [ahead_iff]
    constructor
    · intro h2; exact absurd (congrArg (·.2.1) h2).symm h
    · intro h2; omega
  | false =>
    rw [ahead_not] at h1
    simp only [ahead_iff, Bool.false_eq_true, if_false, true_iff]; omega
/-- What is put: the list, what it came to, the error. -/
def putP (l : List Pt) (p : Pt) : List Pt × Int × Int :=
  if p.2.2 = 0 ∨ rightB l = false then (l, 0, 1)
  else if isAt l p.1 = true then (mergeL l [p], codeP p (l.getD (findP l p.1) p), 0)
  else if l.length = 65536 then (l, 0, 5) else (mergeL l [p], 1, 0)
theorem isAt_some {l : List Pt} {t : Int} (h : isAt l t = true) : ∃ (hn : findP l t < l.length), l[findP l t].1 = t := by
  unfold isAt at h
  cases hg : l[findP l t]? with
  | none => rw [hg] at h; cases h
  | some q =>
    rw [hg] at h; simp only [decide_eq_true_eq] at h
    obtain ⟨hn, e⟩ := List.getElem?_eq_some_iff.1 hg
    exact ⟨hn, by rw [e]; exact h⟩
theorem isAt_not {l : List Pt} {t : Int} (h : isAt l t = false) (hn : findP l t < l.length) : l[findP l t].1 ≠ t := by
  unfold isAt at h
  rw [List.getElem?_eq_getElem hn] at h
  simpa using h
theorem with_at {l : List Pt} {p : Pt} (h : isAt l p.1 = true) : ∃ (hn : findP l p.1 < l.length), mergeL l [p] = l.take (findP l p.1) ++ cntP p l[findP l p.1] :: l.drop (findP l p.1 + 1) := by
  obtain ⟨hn, e⟩ := isAt_some h
  refine ⟨hn, ?_⟩
  rw [← with_merge, withP, List.getElem?_eq_getElem hn]
  simp only [e, if_true]
theorem with_new {l : List Pt} {p : Pt} (h : isAt l p.1 = false) : mergeL l [p] = l.take (findP l p.1) ++ p :: l.drop (findP l p.1) := by
  rw [← with_merge, withP]
  cases hg : l[findP l p.1]? with
  | none => rfl
  | some q =>
    obtain ⟨hn, e⟩ := List.getElem?_eq_some_iff.1 hg
    have := isAt_not h hn
    rw [e] at this
    simp only [if_neg this]
theorem put_len (l : List Pt) (p : Pt) : (mergeL l [p]).length ≤ l.length + 1 := merge_len l [p]
theorem put_len_at {l : List Pt} {p : Pt} (h : isAt l p.1 = true) : (mergeL l [p]).length = l.length := by
  obtain ⟨hn, e⟩ := with_at h
  rw [e]; simp; omega
theorem put_len_new {l : List Pt} {p : Pt} (h : isAt l p.1 = false) : (mergeL l [p]).length = l.length + 1 := by
  have := find_le l p.1
  rw [with_new h]; simp; omega
/-- Is a point's time not above one, and that less than a width away? -/
def nearB (t width : Int) (p : Pt) : Bool := decide (p.1 ≤ t) && decide (IntKind.u64.wrap (IntKind.u64.wrap t - IntKind.u64.wrap p.1) < width)
def rangeB (lo hi : Int) (p : Pt) : Bool := decide (lo ≤ p.1) && decide (p.1 ≤ hi)
def uptoB (seq : Int) (p : Pt) : Bool := decide (p.2.2 ≤ seq)
theorem near_kept (t width : Int) : ∀ p q : Pt, q.1 = p.1 → aheadB q p = true → nearB t width p = true → nearB t width q = true := fun p q e _ h => by
  unfold nearB at h ⊢; rw [e]; exact h
theorem range_kept (lo hi : Int) : ∀ p q : Pt, q.1 = p.1 → aheadB q p = true → rangeB lo hi p = true → rangeB lo hi q = true := fun p q e _ h => by
  unfold rangeB at h ⊢; rw [e]; exact h
theorem upto_kept (seq : Int) : ∀ p q : Pt, q.1 = p.1 → aheadB q p = true → uptoB seq p = true → uptoB seq q = true := fun p q e h0 h => by
  unfold uptoB at h ⊢; rw [ahead_iff] at h0; rw [decide_eq_true_eq] at h ⊢; omega
theorem right_filter {l : List Pt} (h : rightB l = true) (f : Pt → Bool) : rightB (l.filter f) = true := by
  rw [right_iff] at h ⊢
  exact ⟨Nat.le_trans (List.length_filter_le _ _) h.1, fun p hp => h.2.1 p (List.mem_filter.1 hp).1, srt_filter h.2.2 f⟩
end Go.Proofs.Ytinjdlplbficiaa
