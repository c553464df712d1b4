/-
  Maps of keys of one kind (texts, numbers) to any values, plainly and in memory: entries, what is found at a key, what is put, taken away, gone over. Nothing here speaks of one function.
-/
import Derived.Maps.RangeWalk
import Derived.StringKeys
import Derived.Test.YtjgappbomohlcaaGreatDoorKLb
import Derived.Test.YtjgappbomohlcaaGreatDoorKGen
namespace Go.Proofs.YtjgappbomohlcaaGreatDoor
section
set_option linter.unusedVariables false
set_option linter.unusedSimpArgs false
open Go.Maps Go.ChangeMaps Go.MapKept Go.WideElems

abbrev DV := DataW Value
/-- Keys of one kind. -/
structure KeyK (P : Program) (k : TypeId) (κ : Type) [DecidableEq κ] where
  kl : κ → Lit
  kv : κ → Value
  ok : κ → Prop
  same : ∀ a b, (kl a).sameKey (kl b) = decide (a = b)
  law : Keyed P k
  of : ∀ a, ok a → keyOf P k (kv a) = some (kl a)
  inv : ∀ key l, keyOf P k key = some l → ∃ a, key = kv a ∧ l = kl a ∧ ok a
noncomputable def keyT {P : Program} {k : TypeId} (hk : P.underlying k = some .string) : KeyK P k ByteArray where
  kl s := .string (bl s)
  kv := Value.string
  ok s := s.size ≤ maxLen
  same a b := by
    rw [Lit.sameKey]
    by_cases h : a = b
    · subst h; simp
    · have : ¬ bl a = bl b := fun e => h (bl_inj e)
      simp [h, this]
  law := string_keyed hk
  of s hs := Go.WideMaps.keyOf_string_mk hk hs
  inv key l h := by
    cases key <;> simp [keyOf, hk, mapKey] at h
    exact ⟨_, rfl, h.2.symm, h.1⟩
theorem u64_wf {n : Nat} : (Lit.int .u64 (n : Nat)).wf = true ↔ n < 18446744073709551616 := by
  have h : ∀ x : Int, (Lit.int .u64 x).wf = true ↔ 0 ≤ x ∧ x < 18446744073709551616 := fun x => by
    simp [Lit.wf, IntKind.min, IntKind.max, IntKind.signed, IntKind.bits]; omega
  rw [h]; omega
theorem u64_wf_nat {x : Int} (h : (Lit.int .u64 x).wf = true) : ∃ n : Nat, x = n ∧ n < 18446744073709551616 := by
  have h1 : 0 ≤ x := by
    simp [Lit.wf, IntKind.min, IntKind.max, IntKind.signed, IntKind.bits] at h; omega
  obtain ⟨n, rfl⟩ := Int.eq_ofNat_of_zero_le h1
  exact ⟨n, rfl, u64_wf.1 h⟩
noncomputable def keyU {P : Program} {k : TypeId} (hk : P.underlying k = some (.int .u64)) : KeyK P k Nat where
  kl n := .int .u64 (n : Nat)
  kv n := .int .u64 (n : Nat)
  ok n := n < 18446744073709551616
  same a b := by
    rw [Lit.sameKey]
    by_cases h : a = b
    · subst h; simp
    · have : ¬ (a : Int) = (b : Int) := by omega
      simp [h, this]
  law := int_keyed hk
  of n hn := keyOf_int_mk hk (u64_wf.2 hn)
  inv key l h := by
    obtain ⟨x, rfl, rfl, hw⟩ := keyOf_int_inv hk h
    obtain ⟨n, rfl, hn⟩ := u64_wf_nat hw
    exact ⟨n, rfl, rfl, hn⟩

/-- How values of a shape read: as themselves. -/
def shR (S : Value → Bool) (v : Value) : Option (DV × List MemPlace) := if S v = true then some (.held v, []) else none
theorem shR_mk {S : Value → Bool} {v : Value} (h : S v = true) : shR S v = some (.held v, []) := if_pos h
theorem shR_inv {S : Value → Bool} {v : Value} {y : DV × List MemPlace} (h : shR S v = some y) : S v = true ∧ y = (.held v, []) := by
  unfold shR at h
  by_cases hs : S v = true
  · rw [if_pos hs] at h; injection h with h; exact ⟨hs, h.symm⟩
  · rw [if_neg hs] at h; cases h
def isSlice : Value → Bool | .slice _ _ _ => true | _ => false
def isNum : Value → Bool | .int .u64 _ => true | _ => false
def isInt : Value → Bool | .int .i64 _ => true | _ => false
def isMap : Value → Bool | .map _ => true | _ => false

def lkG {κ : Type} [DecidableEq κ] (es : List (κ × Value)) (a : κ) : Option Value := (es.find? fun p => decide (p.1 = a)).map (·.2)
def delG {κ : Type} [DecidableEq κ] (es : List (κ × Value)) (a : κ) : List (κ × Value) := es.filter fun p => !decide (p.1 = a)
section
variable {κ : Type} [DecidableEq κ] {P : Program} {k : TypeId} (K : KeyK P k κ)
def KeyK.ent (p : κ × Value) : Lit × DV := (K.kl p.1, .held p.2)
def KeyK.map (es : List (κ × Value)) : DV := .map (es.map K.ent)
def insG (K : KeyK P k κ) (x : κ × Value) : List (κ × Value) → List (κ × Value)
  | [] => [x]
  | y :: r => if (K.kl x.1).before (K.kl y.1) = true then x :: y :: r else y :: insG K x r
def KeyK.put (es : List (κ × Value)) (a : κ) (v : Value) : List (κ × Value) := insG K (a, v) (delG es a)
theorem KeyK.insert_map (x : κ × Value) : ∀ es : List (κ × Value), DataW.insert (K.ent x) (es.map K.ent) = (insG K x es).map K.ent
  | [] => rfl
  | y :: r => by
    rw [List.map_cons, DataW.insert, insG, KeyK.insert_map x r]
    by_cases h : (K.kl x.1).before (K.kl y.1) = true
    · rw [if_pos h, if_pos (show (K.ent x).1.before (K.ent y).1 = true from h)]; rfl
    · rw [if_neg h, if_neg (show ¬ (K.ent x).1.before (K.ent y).1 = true from h)]; rfl
theorem KeyK.filter_map (es : List (κ × Value)) (a : κ) : ((es.map K.ent).filter fun p => !p.1.sameKey (K.kl a)) = (delG es a).map K.ent := by
  unfold delG
  rw [List.filter_map]
  congr 1
  apply List.filter_congr
  intro e _
  show (!(K.kl e.1).sameKey (K.kl a)) = _
  rw [K.same]
theorem KeyK.put_map (es : List (κ × Value)) (a : κ) (v : Value) : (K.map es).put (K.kl a) (.held v) = K.map (K.put es a v) := by
  unfold KeyK.map DataW.put KeyK.put
  simp only
  rw [KeyK.filter_map, ← KeyK.insert_map]; rfl
theorem KeyK.del_map (es : List (κ × Value)) (a : κ) : (K.map es).del (K.kl a) = K.map (delG es a) := by
  unfold KeyK.map DataW.del
  simp only
  rw [KeyK.filter_map]
theorem KeyK.size_map (es : List (κ × Value)) : Maps.size (K.map es) = es.length := by simp [KeyK.map, Maps.size]
theorem KeyK.find_map (a : κ) : ∀ es : List (κ × Value), (es.map K.ent).find? (fun p => p.1.sameKey (K.kl a)) = (es.find? fun p => decide (p.1 = a)).map K.ent
  | [] => rfl
  | e :: r => by
    rw [List.map_cons, List.find?_cons, List.find?_cons]
    have : (K.ent e).1.sameKey (K.kl a) = decide (e.1 = a) := K.same _ _
    rw [this]
    cases decide (e.1 = a) with
    | true => rfl
    | false => exact KeyK.find_map a r
theorem KeyK.at_map (es : List (κ × Value)) (a : κ) (z : DV) : (K.map es).atKey (K.kl a) z = match lkG es a with | some v => .held v | none => z := by
  unfold KeyK.map DataW.atKey lkG
  simp only
  rw [KeyK.find_map]
  cases es.find? fun p => decide (p.1 = a) <;> rfl
theorem KeyK.has_map (es : List (κ × Value)) (a : κ) : Maps.has (K.map es) (K.kl a) = (lkG es a).isSome := by
  have hf := K.find_map a es
  unfold lkG
  unfold KeyK.map Maps.has
  cases hl : es.find? fun p => decide (p.1 = a) with
  | none =>
    rw [hl] at hf
    show _ = false
    rw [List.any_eq_false]
    intro p hp
    simpa using List.find?_eq_none.1 hf p hp
  | some e =>
    show _ = true
    rw [List.any_eq_true]
    exact ⟨K.ent e, List.mem_map.2 ⟨e, List.mem_of_find?_eq_some hl, rfl⟩, by
      show (K.kl e.1).sameKey _ = true
      rw [K.same]; simpa using List.find?_some hl⟩
theorem lk_none {es : List (κ × Value)} {a : κ} : lkG es a = none ↔ a ∉ es.map (·.1) := by
  unfold lkG
  rw [Option.map_eq_none_iff, List.find?_eq_none]
  simp only [decide_eq_true_eq, List.mem_map, not_exists, not_and]
theorem lk_mem {es : List (κ × Value)} {a : κ} {v : Value} (h : lkG es a = some v) : (a, v) ∈ es := by
  unfold lkG at h
  obtain ⟨e, he, rfl⟩ := Option.map_eq_some_iff.1 h
  have := List.find?_some he
  simp only [decide_eq_true_eq] at this
  rw [← this]
  exact List.mem_of_find?_eq_some he
theorem lk_of {es : List (κ × Value)} (hn : (es.map (·.1)).Nodup) {a : κ} {v : Value} (h : (a, v) ∈ es) : lkG es a = some v := by
  induction es with
  | nil => cases h
  | cons e r ih =>
    rw [List.map_cons, List.nodup_cons] at hn
    unfold lkG
    rw [List.find?_cons]
    by_cases he : e.1 = a
    · rw [decide_eq_true he]
      rcases List.mem_cons.1 h with rfl | h
      · rfl
      · exact absurd (List.mem_map.2 ⟨_, h, rfl⟩) (he ▸ hn.1)
    · rw [decide_eq_false he]
      rcases List.mem_cons.1 h with rfl | h
      · exact absurd rfl he
      · exact ih hn.2 h
theorem ins_perm (x : κ × Value) : ∀ es, (insG K x es).Perm (x :: es)
  | [] => .refl _
  | y :: r => by
    unfold insG; split
    · exact .refl _
    · exact ((ins_perm x r).cons y).trans (.swap x y r)
theorem del_keys (es : List (κ × Value)) (a : κ) : a ∉ (delG es a).map (·.1) := by
  intro h
  obtain ⟨e, he, rfl⟩ := List.mem_map.1 h
  simp [delG] at he
theorem nodup_del {es : List (κ × Value)} (h : (es.map (·.1)).Nodup) (a : κ) : ((delG es a).map (·.1)).Nodup := List.Nodup.sublist (List.filter_sublist.map _) h
theorem nodup_putG {es : List (κ × Value)} (h : (es.map (·.1)).Nodup) (a : κ) (v : Value) : ((K.put es a v).map (·.1)).Nodup := by
  unfold KeyK.put
  rw [((ins_perm K (a, v) (delG es a)).map (·.1)).nodup_iff, List.map_cons, List.nodup_cons]
  exact ⟨del_keys es a, nodup_del h a⟩
theorem lk_del {es : List (κ × Value)} (hn : (es.map (·.1)).Nodup) (a b : κ) : lkG (delG es a) b = if b = a then none else lkG es b := by
  by_cases h : b = a
  · subst h; rw [if_pos rfl, lk_none]; exact del_keys es b
  · rw [if_neg h]
    cases hl : lkG es b with
    | none =>
      rw [lk_none] at hl ⊢
      intro hb; obtain ⟨e, he, hb⟩ := List.mem_map.1 hb
      exact hl (List.mem_map.2 ⟨e, (List.mem_filter.1 he).1, hb⟩)
    | some v => exact lk_of (nodup_del hn a) (List.mem_filter.2 ⟨lk_mem hl, by simp [h]⟩)
theorem lk_put {es : List (κ × Value)} (hn : (es.map (·.1)).Nodup) (a b : κ) (v : Value) : lkG (K.put es a v) b = if b = a then some v else lkG es b := by
  have hp := ins_perm K (a, v) (delG es a)
  have hnd := nodup_putG K hn a v
  by_cases h : b = a
  · subst h; rw [if_pos rfl]
    exact lk_of hnd (hp.mem_iff.2 List.mem_cons_self)
  · rw [if_neg h]
    have hd := lk_del hn a b
    rw [if_neg h] at hd
    rw [← hd]
    cases hl : lkG (delG es a) b with
    | none =>
      rw [lk_none] at hl ⊢
      intro hb
      rw [show (K.put es a v).map (·.1) = (insG K (a, v) (delG es a)).map (·.1) from rfl, (hp.map (·.1)).mem_iff, List.map_cons] at hb
      rcases List.mem_cons.1 hb with e | e
      · exact h e
      · exact hl e
    | some u => exact lk_of hnd (hp.mem_iff.2 (List.mem_cons_of_mem _ (lk_mem hl)))
/-- As many entries as keys. -/
theorem len_keys {es : List (κ × Value)} {l : List κ} (hn : (es.map (·.1)).Nodup) (hl : l.Nodup) (h : ∀ a, (lkG es a).isSome = true ↔ a ∈ l) : es.length = l.length := by
  have hp : (es.map (·.1)).Perm l := (List.perm_ext_iff_of_nodup hn hl).2 fun a => by
    rw [← h a]
    by_cases hm : a ∈ es.map (·.1)
    · refine ⟨fun _ => ?_, fun _ => hm⟩
      cases hk : lkG es a with
      | none => exact absurd hm (lk_none.1 hk)
      | some v => rfl
    · exact ⟨fun h => absurd h hm, fun hs => by rw [lk_none.2 hm] at hs; cases hs⟩
  rw [← hp.length_eq, List.length_map]

/-- Block b is a map with these entries. -/
structure MapG (S : Value → Bool) (w : World) (b : Nat) (es : List (κ × Value)) : Prop where
  own : w.ownsMap P k (shR S) b es.length (K.map es)
  nd : (es.map (·.1)).Nodup
theorem owns_tight {S : Value → Bool} {w : World} {b n : Nat} {es : List (κ × Value)} (h : w.ownsMap P k (shR S) b n (K.map es)) : w.ownsMap P k (shR S) b es.length (K.map es) := by
  obtain ⟨m, clock, hb, F, hs, hD⟩ := h
  refine ⟨m, clock, hb, F, ?_, hD⟩
  have := congrArg Maps.size hD
  rw [KeyK.size_map] at this
  rw [this]; simp [Maps.size, length_sorted]
variable {K} {S : Value → Bool} {w w' : World} {b : Nat} {es : List (κ × Value)}
theorem MapG.lt (h : MapG K S w b es) : b < w.heap.size := h.own.lt
theorem MapG.moved (h : MapG K S w b es) (hk : w'.heap[b]? = w.heap[b]?) : MapG K S w' b es := by
  obtain ⟨m, clock, hb, F, hs, hD⟩ := h.own
  exact ⟨⟨m, clock, hk.trans hb, F, hs, hD⟩, h.nd⟩
theorem MapG.below (h : MapG K S w b es) (hb : RowKit.Below w.heap.size w w') : MapG K S w' b es := h.moved (hb.block b h.lt)
theorem mapG_new (K : KeyK P k κ) (S : Value → Bool) {w : World} {b : Nat} (h : w.heap[b]? = some (.map #[] 0)) : MapG K S w b [] :=
  ⟨⟨#[], 0, h, ⟨by simp, stamped_empty 0, by simp⟩, Nat.le_refl _, rfl⟩, List.nodup_nil⟩
section
variable {t e : TypeId} {z : Value}
/-- A look-up, with and without the second answer. -/
theorem MapG.look (h : MapG K S w b es) (ht : P.underlying t = some (.map k e)) (hz : (zeroValue e).run P w = .ok z w) (hS : S z = true) {a : κ} (ha : K.ok a) (c : Bool) :
    (Instr.lookup t (.map (some b)) (K.kv a) c).run P w = .ok (if c then .tuple #[(lkG es a).getD z, .bool (lkG es a).isSome] else (lkG es a).getD z) w := by
  have at_ : ∀ v ps, shR S v = some ((K.map es).atKey (K.kl a) (.held z), ps) → v = (lkG es a).getD z := fun v ps hv => by
    obtain ⟨_, e2⟩ := shR_inv hv
    rw [K.at_map] at e2
    cases hl : lkG es a with
    | none => rw [hl] at e2; injection e2 with e2 _; injection e2 with e2; exact e2.symm
    | some u => rw [hl] at e2; injection e2 with e2 _; injection e2 with e2; exact e2.symm
  cases c with
  | true =>
    obtain ⟨v, ps, hr, hv⟩ := h.own.look_ok K.law ht hz (shR_mk hS) (K.of a ha)
    rw [hr, at_ v ps hv, K.has_map, if_pos rfl]
  | false =>
    obtain ⟨v, ps, hr, hv⟩ := h.own.lookup K.law ht hz (shR_mk hS) (K.of a ha)
    rw [hr, at_ v ps hv, if_neg (by decide)]
theorem MapG.len (h : MapG K S w b es) (ht : P.underlying t = some (.map k e)) (ty : TypeId) : (Builtin.len_ #[t] ty #[.map (some b)]).run P w = .ok (.int .i64 (es.length : Nat)) w := by
  rw [h.own.len ht ty, K.size_map]
theorem MapG.store (h : MapG K S w b es) (ht : P.underlying t = some (.map k e)) (hn : es.length < maxLen) {a : κ} (ha : K.ok a) {v : Value} (hv : S v = true) :
    ∃ w', (Instr.mapUpdate t (.map (some b)) (K.kv a) v).run P w = .ok () w' ∧ MapG K S w' b (K.put es a v) ∧ w.mapTurned w' b := by
  obtain ⟨w', hr, ho, hm⟩ := h.own.store K.law ht hn (K.of a ha) (shR_mk hv)
  rw [K.put_map] at ho
  exact ⟨w', hr, ⟨owns_tight K ho, nodup_putG K h.nd a v⟩, hm⟩
theorem MapG.drop (h : MapG K S w b es) (ht : P.underlying t = some (.map k e)) {a : κ} (ha : K.ok a) (ty : TypeId) :
    ∃ w', (Builtin.delete_ #[t, k] ty #[.map (some b), K.kv a]).run P w = .ok (.tuple #[]) w' ∧ MapG K S w' b (delG es a) ∧ w.mapTurned w' b := by
  obtain ⟨w', hr, ho, hm⟩ := h.own.drop K.law ht (K.of a ha) ty
  rw [K.del_map] at ho
  exact ⟨w', hr, ⟨owns_tight K ho, nodup_del h.nd a⟩, hm⟩
theorem look_nilG (K : KeyK P k κ) (ht : P.underlying t = some (.map k e)) {w : World} (hz : (zeroValue e).run P w = .ok z w) {a : κ} (ha : K.ok a) (c : Bool) : (Instr.lookup t (.map none) (K.kv a) c).run P w = .ok (if c then .tuple #[z, .bool false] else z) w :=
  Maps.look_nil c K.law ht hz (K.of a ha)
end
end
/-! ### at the operation -/
theorem mvTurned {w w' : World} {b : Nat} (h : w.mapTurned w' b) : Mv (fun k => k = b) w w' := by
  have := (Mv.refl (fun k => k = b) w).grown h.grown (fun k _ hk => by injection hk with hk; exact hk.symm)
  exact this
section
variable {κ : Type} [DecidableEq κ] {P : Program} {k e : TypeId} {K : KeyK P k κ} {S : Value → Bool} {w : World} {b : Nat} {es : List (κ × Value)} {ops : Array Oper} {rest : List Oper} {o : Oper} {a : Act} {Q : Exit → Act → World → Prop}
theorem wpList_delG (hg : o.guard = none) (m x : Operand) (t : TypeId) (hop : o.op = Op.call { callee := Callee.builtin Builtin.delete, args := #[m, x], argTypes := #[t, k] }) (ht : P.underlying t = some (.map k e)) (h : MapG K S w b es) (hm : a.eval m = .map (some b))
    (y : κ) (hx : a.eval x = K.kv y) (hy : K.ok y)
    (hK : ∀ w', MapG K S w' b (delG es y) → w.mapTurned w' b → wpList P ops Q rest (a.put o.dst (.tuple #[])) w') : wpList P ops Q (o :: rest) a w := by
  refine wpList_plain hg fun K' hK' => ?_
  obtain ⟨w', hrun, r1, r2⟩ := h.drop ht hy o.type
  unfold Oper.wp
  simp [execOp, hop, resolve, invoke, builtin, hm, hx, hrun, Result.andThen]
  exact hK' _ _ (hK w' r1 r2)
/-- What is still to come, when that at a key has come. -/
def struckG (K : KeyK P k κ) (left : Lit → Bool) (y : κ) : Lit → Bool := fun z => left z && !z.sameKey (K.kl y)
theorem struckG_at (left : Lit → Bool) (x y : κ) : struckG K left y (K.kl x) = (left (K.kl x) && !decide (x = y)) := by unfold struckG; rw [K.same]
theorem wpList_rangeG (hg : o.guard = none) (m : Operand) (t : TypeId) (hop : o.op = Op.range t m) (ht : P.underlying t = some (.map k e)) (h : MapG K S w b es) (hm : a.eval m = .map (some b))
    (hK : ∀ w', w'.ranges P k (shR S) b w.heap.size es.length (K.map es) (Maps.has (K.map es)) es.length → w.grownBy w' none → w'.heap.size = w.heap.size + 1 → wpList P ops Q rest (a.put o.dst (.pointer (some ⟨w.heap.size, 0, none⟩))) w') :
    wpList P ops Q (o :: rest) a w :=
  wpList_range_own w hg m t hop k e K.law ht (shR S) b es.length (K.map es) hm h.own (by rw [K.size_map]; exact hK)
theorem wpList_nextG {β : Type} (mkV : β → Value) (hS : ∀ v, S v = true → ∃ c, v = mkV c) (hnd : (es.map (·.1)).Nodup) (hg : o.guard = none) (it : Operand) (hop : o.op = Op.next it false) (r n : Nat) (left : Lit → Bool) (cnt : Nat)
    (hit : a.eval it = .pointer (some ⟨r, 0, none⟩)) (h : w.ranges P k (shR S) b r n (K.map es) left cnt)
    (hDone : cnt = 0 → (∀ y, left (K.kl y) = false) → wpList P ops Q rest (a.put o.dst (.tuple #[.bool false])) w)
    (hMore : ∀ (y : κ) (c : β) (w' : World) (cnt' : Nat), lkG es y = some (mkV c) → K.ok y → left (K.kl y) = true → w'.ranges P k (shR S) b r n (K.map es) (struckG K left y) cnt' → cnt' < cnt → w.grownBy w' (some r) → w'.heap.size = w.heap.size →
      (Instr.entry (.pointer (some ⟨r, 0, none⟩))).run P w' = .ok (.tuple #[K.kv y, mkV c]) w' → wpList P ops Q rest (a.put o.dst (.tuple #[.bool true, K.kv y, mkV c])) w') :
    wpList P ops Q (o :: rest) a w :=
  wpList_next_ranges w hg it hop k K.law (shR S) K.kv mkV (fun key kl hkey => by obtain ⟨y, rfl, _⟩ := K.inv _ _ hkey; exact ⟨y, rfl⟩) (fun v y hv => hS v (shR_inv hv).1)
    b r n (K.map es) left cnt hit h (fun h0 hl => hDone h0 fun y => hl _) (fun y c kl d w' cnt' hkey hlk hv hat hrg hlt hgr hsz hen => by
      obtain ⟨y', e1, rfl, hy⟩ := K.inv _ _ hkey
      rw [e1] at hen ⊢
      obtain ⟨_, rfl⟩ := shR_inv hv
      have h1 := hat (.lit (.bool true))
      rw [K.at_map] at h1
      cases hl : lkG es y' with
      | none => rw [hl] at h1; cases h1
      | some u =>
        rw [hl] at h1
        injection h1 with h1
        exact hMore y' c w' cnt' (by rw [hl, h1]) hy hlk hrg hlt hgr hsz hen)
end
end
end Go.Proofs.YtjgappbomohlcaaGreatDoor
