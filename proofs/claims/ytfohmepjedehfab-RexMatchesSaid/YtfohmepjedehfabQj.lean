/-
  What a parser in memory is behind calls that turn its atoms; rows appended.
-/
import Derived.Test.YtfohmepjedehfabQi
import Derived.Test.YtfohmepjedehfabQf
import Derived.Deep.AppendLies
namespace Go.Proofs.Ytfohmepjedehfab
set_option linter.unusedVariables false
set_option linter.unusedSimpArgs false
open Go.RowKit
theorem PIs.keep {S : Nat → Prop} {w w' : World} {p : Nat} {l : List Pc} {v : Value} {us : List Value} {L : List Atm} (h : PIs w p l v us L) (m : Mv S w w') (h1 : ∀ k, k ≤ p → ¬ S k) (h2 : ∀ k, v.ownBlock = some k → ¬ S k) (h3 : ∀ (i : Nat) (u : Value) (a : Atm), us[i]? = some u → L[i]? = some a → ∀ k, u.ownBlock = some k → ¬ S k) : PIs w' p l v us L := by
  obtain ⟨pb, off, c, hb, hp, hlc, hc, hr⟩ := h.box
  refine ⟨⟨pb, off, c, (m.block _ (blk_lt hb) (h1 _ (Nat.le_refl _))).trans hb, hp, hlc, hc, hr.blk fun b hb' e => ?_⟩, ⟨h.at'.len, own_mv h.at'.row m h2, fun i u a hu ha => own_mv (h.at'.sp i u a hu ha) m (h3 i u a hu ha)⟩, h.ok, h.small, h.few⟩
  injection e with e
  simp only at e
  subst e
  exact m.block _ hb' (h1 _ (by omega))
/-- Blocks from B on turned: what the parser owns lies below. -/
theorem PIs.high {S : Nat → Prop} {w0 w w' : World} {p : Nat} {l0 l : List Pc} {v : Value} {us : List Value} {L : List Atm} (h0 : PIs w0 p l0 v us L) (h : PIs w p l v us L) (m : Mv S w w') (hS : ∀ k, S k → w0.heap.size ≤ k) : PIs w' p l v us L :=
  h.keep m (fun k hk hs => by have := hS k hs; have := h0.lt; omega) (fun k hk hs => by have := hS k hs; have := (h0.at'.row.lt k hk).2; omega)
    (fun i u a hu ha k hk hs => by have := hS k hs; have := ((h0.at'.sp i u a hu ha).lt k hk).2; omega)
/-- Atoms turned. -/
theorem PIs.turn {S : Nat → Prop} {w w' : World} {p : Nat} {l : List Pc} {v v' : Value} {us us' : List Value} {L L' : List Atm} (h : PIs w p l v us L) (m : Mv S w w') (h1 : ∀ k, k < p → ¬ S k)
    (hb : ∀ x, w.heap[p]? = some (.cells #[x, v] 112 (0, 0)) → w'.heap[p]? = some (.cells #[x, v'] 112 (0, 0))) (ha : AtIs w' (p + 1) v' us' L') (hf : L'.length + l.length ≤ 257) : PIs w' p l v' us' L' := by
  obtain ⟨pb, off, c, hb', hp, hlc, hc, hr⟩ := h.box
  refine ⟨⟨pb, off, c, hb _ hb', hp, hlc, hc, hr.blk fun b hb' e => ?_⟩, ha, h.ok, h.small, hf⟩
  injection e with e
  simp only at e
  subst e
  exact m.block _ hb' (h1 _ hp)
theorem PIs.ne_sp {w : World} {p : Nat} {l : List Pc} {v : Value} {us : List Value} {L : List Atm} (h : PIs w p l v us L) {i : Nat} {u : Value} {a : Atm} (hu : us[i]? = some u) (ha : L[i]? = some a) {k : Nat} (hk : u.ownBlock = some k) : v.ownBlock ≠ some k :=
  own_own (h.at'.sp i u a hu ha) h.at'.row (by decide) hk
def lenSl : Value → Nat
  | Value.slice _ n _ => n
  | _ => 0
/-- How many places are left, as the parser's box says. -/
def restN (p : Nat) (w : World) : Nat :=
  match w.heap[p]? with
  | some (Obj.cells cs _ _) => lenSl (cs[0]?.getD (.bool false))
  | _ => 0
theorem PIs.restN {w : World} {p : Nat} {l : List Pc} {v : Value} {us : List Value} {L : List Atm} (h : PIs w p l v us L) : restN p w = l.length := by
  obtain ⟨pb, off, c, hb, _⟩ := h.box
  simp [Go.Proofs.Ytfohmepjedehfab.restN, hb, lenSl]
theorem memberP_len {l : List Pc} {m : Spans} {l1 : List Pc} (e : memberP l = .ok (m, l1)) : m.length ≤ 4 := by
  unfold memberP at e
  split at e
  · rename_i g hg
    injection e with e; injection e with e _; subst e
    unfold manyL at hg
    split at hg
    · unfold manyP at hg
      split at hg
      · injection hg with hg; subst hg; decide
      · split at hg
        · injection hg with hg; subst hg; decide
        · split at hg
          · injection hg with hg; subst hg; decide
          · cases hg
    · cases hg
  · split at e
    · cases e
    · split at e
      · split at e
        · cases e
        · injection e with e; injection e with e _; subst e; simp
      · injection e with e; injection e with e _; subst e; simp
/-- What parts of the parser may do: its box, the row of its atoms. -/
def PM (p : Nat) (v : Value) (k : Nat) : Prop := k = p ∨ v.ownBlock = some k
structure Mvd (p : Nat) (v v' : Value) (w w' : World) : Prop where
  mv : Mv (PM p v) w w'
  own : ∀ k, v'.ownBlock = some k → v.ownBlock = some k ∨ w.heap.size ≤ k
theorem Mvd.refl (p : Nat) (v : Value) (w : World) : Mvd p v v w w := ⟨Mv.refl _ _, fun _ h => .inl h⟩
theorem Mvd.err {p : Nat} {v v1 : Value} {w w1 w2 : World} (h : Mvd p v v1 w w1) (m : Mv (PM p v1) w1 w2) : Mv (PM p v) w w2 :=
  h.mv.trans m fun i hi hT => by
    rcases hT with e | e
    · exact .inl e
    · rcases h.own i e with e | e
      · exact .inr e
      · omega
theorem Mvd.trans {p : Nat} {v v1 v2 : Value} {w w1 w2 : World} (h : Mvd p v v1 w w1) (k : Mvd p v1 v2 w1 w2) : Mvd p v v2 w w2 :=
  ⟨h.err k.mv, fun i e => by
    rcases k.own i e with e | e
    · exact h.own i e
    · exact .inr (Nat.le_trans h.mv.size e)⟩
theorem Mvd.box {p : Nat} {v : Value} {w w' : World} (m : Mv (fun k => k = p) w w') : Mvd p v v w w' := ⟨m.mono fun _ _ h => .inl h, fun _ h => .inl h⟩
theorem Mvd.row {p : Nat} {v : Value} {w w' : World} (m : Mv (fun k => v.ownBlock = some k) w w') : Mvd p v v w w' := ⟨m.mono fun _ _ h => .inr h, fun _ h => .inl h⟩
theorem Mvd.of_below {p : Nat} {v : Value} {w w' : World} (m : Below w.heap.size w w') : Mvd p v v w w' := ⟨Mv.of_below m _, fun _ h => .inl h⟩
theorem Mvd.size {p : Nat} {v v' : Value} {w w' : World} (h : Mvd p v v' w w') : w.heap.size ≤ w'.heap.size := h.mv.size
theorem own_rdg {w : World} {base : Nat} {e : TypeId} {size : Nat} {v : Value} {n : Nat} {xs : List Value} (h : w.ownsRow base e size v n xs) :
    ∃ A cap, v = .slice A n cap ∧ Rd w A xs ∧ n ≤ cap ∧ cap ≤ maxLen := by
  rcases h.2 with ⟨rfl, rfl⟩ | ⟨g, cap, cur, rfl, _, _, hnc, hcm, _⟩
  · have : xs = [] := List.eq_nil_of_length_eq_zero (by simpa using h.1)
    subst this
    exact ⟨none, 0, rfl, Rd.nil _ _, Nat.le_refl _, Nat.zero_le _⟩
  · refine ⟨some ⟨g, 0, none⟩, cap, rfl, fun k u hk => ?_, hnc, hcm⟩
    have := h.cells (g := g) rfl k u hk
    have hadd : (⟨g, 0, none⟩ : Addr).add k = ⟨g, k, none⟩ := by unfold Addr.add; split <;> simp_all
    exact ⟨g, 0, rfl, by rw [hadd] at this; simpa using this⟩
theorem own_read {w : World} {B : Nat} {e : TypeId} {size n b c m : Nat} {xs : List Value} (h : w.ownsRow B e size (.slice (some ⟨b, 0, none⟩) m c) n xs) : Rd w (some ⟨b, 0, none⟩) xs := by
  obtain ⟨A, cap, e1, hr, -, -⟩ := own_rdg h
  injection e1 with e1 _ _
  rw [e1]; exact hr
theorem infoAtom : (Try.prog.info? 124).map (fun i => (i.zero, i.size, i.bytes)) = some (some (.agg #[.slice none 0 0, .bool false, .int .u64 0, .int .u64 0, .int .u64 0, .int .u64 0]), 6, 64) := by kernel_rfl
theorem infoSpan : (Try.prog.info? 128).map (fun i => (i.zero, i.size, i.bytes)) = some (some (.agg #[.int .i32 0, .int .i32 0]), 2, 8) := by kernel_rfl
theorem info_g {P : Program} {e : TypeId} {z : Value} {sz by' : Nat} (h : (P.info? e).map (fun i => (i.zero, i.size, i.bytes)) = some (some z, sz, by')) : ∃ i, P.info? e = some i ∧ i.zero = some z ∧ i.size = sz ∧ i.bytes = by' := by
  cases hi : P.info? e with
  | none => simp [hi] at h
  | some i => simp [hi] at h; exact ⟨i, rfl, h⟩
/-- append onto a row of one's own of what can be read. -/
theorem wpList_append_g {P : Program} {w : World} {ops : Array Oper} {rest : List Oper} {o : Oper} {a : Act} {Q : Exit → Act → World → Prop} (hgd : o.guard = none) (s x : Operand) (t e : TypeId) (z : Value) (sz by' : Nat)
    (hinf : (P.info? e).map (fun i => (i.zero, i.size, i.bytes)) = some (some z, sz, by')) (ht : P.underlying t = some (.slice e)) (hzs : z.cells.size = sz) (hsz : 0 < sz)
    (ho : o.op = .call { callee := .builtin .append, args := #[s, x], argTypes := #[t, t] })
    (base : Nat) (v : Value) (n : Nat) (xs : List Value) (hs : a.eval s = v) (hown : w.ownsRow base e sz v n xs)
    (A : Option Addr) (m c : Nat) (ys : List Value) (hx : a.eval x = .slice A m c) (hy : Rd w A ys) (hyl : ys.length = m * sz) (h1 : ∀ u ∈ ys, u.oneCell' = true)
    (h63 : n + m ≤ maxLen) (hby : (n + m) * by' ≤ 140737488355328) (hbase : base ≤ w.heap.size)
    (h : ∀ v' w', w'.ownsRow base e sz v' (n + m) (xs ++ ys) → w.grownBy w' v.ownBlock → wpList P ops Q rest (a.put o.dst v') w') : wpList P ops Q (o :: rest) a w := by
  obtain ⟨i0, hi, hz0, hz1, hz2⟩ := info_g hinf
  cases A with
  | some ad =>
    exact wpList_append_own w hgd s x t ho base e i0 z sz by' ht hi hz0 hz1 hz2 hzs hsz v n xs hs hown ad m c ys hx hyl (rd_cells hy) h1 h63 hby hbase (fun v' w' a b _ => h v' w' a b)
  | none =>
    have h0 : ys = [] := by
      cases ys with
      | nil => rfl
      | cons u r => obtain ⟨b, off, e', _⟩ := hy 0 u rfl; cases e'
    subst h0
    have hm : m = 0 := by
      have h2 : m * sz = 0 := by simpa using hyl.symm
      rcases Nat.mul_eq_zero.mp h2 with h2 | h2
      · exact h2
      · omega
    subst hm
    have hrun := run_append_none (P := P) base t o.type e i0 sz ht hi v n c xs hown
    refine wpList_plain hgd fun K hK => ?_
    unfold Oper.wp execOp
    simp only [ho, resolve, invoke, builtin, Sem.run_bind, Sem.run_pure, Result.andThen_ok, List.map_toArray, List.map_cons, List.map_nil, hs, hx, List.length_nil, hrun]
    exact hK _ _ (h v w (by simpa using hown) ⟨rfl, rfl, rfl, Nat.le_refl _, fun _ _ _ => rfl⟩)
theorem wp_append_g {P : Program} {w : World} {o : Oper} {a : Act} {K : Act → World → Prop} {Q : Exit → Act → World → Prop} (s x : Operand) (t e : TypeId) (z : Value) (sz by' : Nat)
    (hinf : (P.info? e).map (fun i => (i.zero, i.size, i.bytes)) = some (some z, sz, by')) (ht : P.underlying t = some (.slice e)) (hzs : z.cells.size = sz) (hsz : 0 < sz)
    (ho : o.op = .call { callee := .builtin .append, args := #[s, x], argTypes := #[t, t] })
    (base : Nat) (v : Value) (n : Nat) (xs : List Value) (hs : a.eval s = v) (hown : w.ownsRow base e sz v n xs)
    (A : Option Addr) (m c : Nat) (ys : List Value) (hx : a.eval x = .slice A m c) (hy : Rd w A ys) (hyl : ys.length = m * sz) (h1 : ∀ u ∈ ys, u.oneCell' = true)
    (h63 : n + m ≤ maxLen) (hby : (n + m) * by' ≤ 140737488355328) (hbase : base ≤ w.heap.size)
    (h : ∀ v' w', w'.ownsRow base e sz v' (n + m) (xs ++ ys) → w.grownBy w' v.ownBlock → K (a.put o.dst v') w') : o.wp P a w K Q := by
  obtain ⟨i0, hi, hz0, hz1, hz2⟩ := info_g hinf
  cases A with
  | some ad =>
    exact wp_append_own w s x t ho base e i0 z sz by' ht hi hz0 hz1 hz2 hzs hsz v n xs hs hown ad m c ys hx hyl (rd_cells hy) h1 h63 hby hbase (fun v' w' a b _ => h v' w' a b)
  | none =>
    have h0 : ys = [] := by
      cases ys with
      | nil => rfl
      | cons u r => obtain ⟨b, off, e', _⟩ := hy 0 u rfl; cases e'
    subst h0
    have hm : m = 0 := by
      have h2 : m * sz = 0 := by simpa using hyl.symm
      rcases Nat.mul_eq_zero.mp h2 with h2 | h2
      · exact h2
      · omega
    subst hm
    have hrun := run_append_none (P := P) base t o.type e i0 sz ht hi v n c xs hown
    unfold Oper.wp execOp
    simp only [ho, resolve, invoke, builtin, Sem.run_bind, Sem.run_pure, Result.andThen_ok, List.map_toArray, List.map_cons, List.map_nil, hs, hx, List.length_nil, hrun]
    exact (h v w (by simpa using hown) ⟨rfl, rfl, rfl, Nat.le_refl _, fun _ _ _ => rfl⟩)
theorem step_append_g {P : Program} {w : World} {ops : Array Oper} {o : Oper} {a : Act} {K : Act → World → Prop} {Q : Exit → Act → World → Prop} {E : Prop} (hgd : o.guard = none) (s x : Operand) (t e : TypeId) (z : Value) (sz by' : Nat)
    (hinf : (P.info? e).map (fun i => (i.zero, i.size, i.bytes)) = some (some z, sz, by')) (ht : P.underlying t = some (.slice e)) (hzs : z.cells.size = sz) (hsz : 0 < sz)
    (ho : o.op = .call { callee := .builtin .append, args := #[s, x], argTypes := #[t, t] })
    (base : Nat) (v : Value) (n : Nat) (xs : List Value) (hs : a.eval s = v) (hown : w.ownsRow base e sz v n xs)
    (A : Option Addr) (m c : Nat) (ys : List Value) (hx : a.eval x = .slice A m c) (hy : Rd w A ys) (hyl : ys.length = m * sz) (h1 : ∀ u ∈ ys, u.oneCell' = true)
    (h63 : n + m ≤ maxLen) (hby : (n + m) * by' ≤ 140737488355328) (hbase : base ≤ w.heap.size)
    (h : ∀ v' w', w'.ownsRow base e sz v' (n + m) (xs ++ ys) → w.grownBy w' v.ownBlock → K (a.put o.dst v') w') : if Region.wanted o (yielded ops a.tmps) = true then Oper.wp P o a w K Q else E := by
  have hw : Region.wanted o (yielded ops a.tmps) = true := by simp [Region.wanted, hgd]
  rw [if_pos hw]
  exact wp_append_g s x t e z sz by' hinf ht hzs hsz ho base v n xs hs hown A m c ys hx hy hyl h1 h63 hby hbase h
theorem undrewMv {S : Nat → Prop} {w w' : World} (m : Mv S w.drew w') : Mv S w w' := ⟨m.os, m.tape, m.output, m.size, m.block⟩
theorem ungrown {w w' : World} {row : Option Nat} (h : w.drew.grownBy w' row) : w.grownBy w' row := by
  obtain ⟨a, b, c, d, e⟩ := h
  exact ⟨a, b, c, d, e⟩
theorem spC_one (l : Spans) : ∀ u ∈ spC l, u.oneCell' = true := by
  intro u hu
  unfold spC at hu
  rw [List.mem_flatMap] at hu
  obtain ⟨s, _, hs⟩ := hu
  simp only [List.mem_cons, List.not_mem_nil, or_false] at hs
  rcases hs with rfl | rfl <;> rfl
theorem atsC_app : ∀ (us : List Value) (L : List Atm) (u : Value) (a : Atm), us.length = L.length → atsC (us ++ [u]) (L ++ [a]) = atsC us L ++ atC u a
  | [], [], u, a, _ => by simp [atsC]
  | x :: us, b :: L, u, a, h => by
    simp only [List.cons_append, atsC, List.append_assoc]
    rw [atsC_app us L u a (by simpa using h)]
  | [], _ :: _, _, _, h => by simp at h
  | _ :: _, [], _, _, h => by simp at h
/-- A part's answer: its tree's part, the atoms behind those that were there. -/
def OutP (p : Nat) (v : Value) (L : List Atm) (w : World) (r : Rs Re) (e : Ending) (w' : World) : Prop :=
  match r with
  | .ok (t, l') => ∃ v' us', e = .returned (partV (compP t L).1) ∧ PIs w' p l' v' us' (compP t L).2 ∧ Mvd p v v' w w'
  | .error f => e = flE f ∧ Mv (PM p v) w w'
theorem OutP.before {p : Nat} {v : Value} {L : List Atm} {w w1 w' : World} {r : Rs Re} {e : Ending} (hb : Below w.heap.size w w1) (h : OutP p v L w1 r e w') : OutP p v L w r e w' := by
  unfold OutP at h ⊢
  split at h
  · obtain ⟨v', us', h1, h2, h3⟩ := h; exact ⟨v', us', h1, h2, (Mvd.of_below hb).trans h3⟩
  · exact ⟨h.1, (Mvd.of_below hb).err h.2⟩
/-- An empty part, where a result will lie. -/
def zP : Array Value := #[.int .u64 0, .int .u64 0, .int .u64 0, .int .u64 0, .int .u64 0, .int .u64 0, .int .u64 0, .int .u64 0, .bool false]
def partL (x : Prt) : List Value := [.int .u64 (wd x.first 0 : Nat), .int .u64 (wd x.first 1 : Nat), .int .u64 (wd x.first 2 : Nat), .int .u64 (wd x.first 3 : Nat), .int .u64 (wd x.last 0 : Nat), .int .u64 (wd x.last 1 : Nat), .int .u64 (wd x.last 2 : Nat), .int .u64 (wd x.last 3 : Nat), .bool x.empty]
theorem partV_L (x : Prt) : partV x = .agg (partL x).toArray := rfl
theorem partL_one (x : Prt) : ∀ v ∈ partL x, v.oneCell' = true := one9
theorem spl9 (x : Prt) {cs : Array Value} (h : cs.size = 9) : spl cs 0 (partL x) = (partL x).toArray := by
  unfold spl splice
  rw [List.take_zero, List.nil_append, Nat.zero_add, List.drop_eq_nil_of_le (by rw [Array.length_toList, h]; exact Nat.le_refl 9), List.append_nil]
theorem part_cells {w : World} {g : Nat} {x : Prt} (h : w.heap[g]? = some (.cells (partL x).toArray 85 (0, 0))) : ∀ (j : Nat) (u : Value), (partL x)[j]? = some u → w.cell? ⟨g, 0 + j, none⟩ = some u := fun j u hu => by
  rw [Nat.zero_add, cell_blk h]; simpa using hu
structure Zs (w W : World) : Prop where
  sz : W.heap.size = w.heap.size + 1
  below : Below w.heap.size w W
  z : W.heap[w.heap.size]? = some (.cells zP 85 (0, 0))
theorem Zs.mk' (w : World) : Zs w (w.alloc (.cells zP 85)) := ⟨by simp, (Below.refl _ w).alloc (Nat.le_refl _) _, heap_alloc_new _ _⟩
theorem Zs.pis {w W : World} (hz : Zs w W) {p : Nat} {l : List Pc} {v : Value} {us : List Value} {L : List Atm} (h : PIs w p l v us L) : PIs W p l v us L := h.below hz.below
theorem Zs.at' {w W w2 : World} (hz : Zs w W) {p : Nat} {l : List Pc} {v : Value} {us : List Value} {L : List Atm} (h : PIs w p l v us L) (m : Mv (PM p v) W w2) : w2.heap[w.heap.size]? = some (.cells zP 85 (0, 0)) := by
  refine (m.block _ (by have := hz.sz; omega) ?_).trans hz.z
  rintro (e | e)
  · have := h.lt; omega
  · have := (h.at'.row.lt _ e).2; omega
theorem Zs.err {w W w2 : World} (hz : Zs w W) {S : Nat → Prop} (m : Mv S W w2) : Mv S w w2 := (Mv.of_below hz.below S).trans m fun _ _ h => h
/-- The parser stays where a block turns that holds parts. -/
theorem PIs.store {w2 w3 : World} {p : Nat} {l : List Pc} {v : Value} {us : List Value} {L : List Atm} {g : Nat} {cs : Array Value} (h : PIs w2 p l v us L) (hg : w2.heap[g]? = some (.cells cs 85 (0, 0))) (hp : p < g) (m : Mv (fun k => k = g) w2 w3) : PIs w3 p l v us L :=
  h.keep m (fun k hk e => by omega) (fun k hk e => by subst e; exact own_blk h.at'.row hg (by decide) hk) (fun i u a hu ha k hk e => by subst e; exact own_blk (h.at'.sp i u a hu ha) hg (by decide) hk)
theorem Zs.fin {w W w2 w3 : World} (hz : Zs w W) {p : Nat} {l l' : List Pc} {v v' : Value} {us us' : List Value} {L : List Atm} {t : Re} (h : PIs w p l v us L) (h2 : PIs w2 p l' v' us' (compP t L).2) (m2 : Mvd p v v' W w2) (m3 : Mv (fun k => k = w.heap.size) w2 w3) :
    OutP p v L w (.ok (t, l')) (.returned (.agg (partL (compP t L).1).toArray)) w3 :=
  ⟨v', us', rfl, h2.store (hz.at' h m2.mv) h.lt m3, (hz.err m2.mv).trans m3 fun i hi e => by omega, fun k hk => by
    rcases m2.own k hk with e | e
    · exact .inl e
    · exact .inr (by have := hz.sz; omega)⟩
end Go.Proofs.Ytfohmepjedehfab
