/-
  A map of names to boxes, plainly and in memory: entries by rising names, what is found at a name, what is put, taken away, gone over. Nothing here speaks of one function.
-/
import Derived.Maps.RangeWalk
import Derived.StringKeys
import Derived.Test.YtnmbjhpecblioaaGreatDoorLb
import Derived.Test.YtnmbjhpecblioaaGreatDoorGen
namespace Go.Proofs.YtnmbjhpecblioaaGreatDoor
set_option linter.unusedVariables false
set_option linter.unusedSimpArgs false
open Go.Maps

theorem before_bs : ∀ a b : Bs, bytesBefore a b = decide (a < b)
  | [], [] => by simp [bytesBefore]
  | [], _ :: _ => by simp [bytesBefore]
  | _ :: _, [] => by simp [bytesBefore]
  | x :: a, y :: b => by
    rw [bytesBefore, before_bs a b]
    by_cases h1 : x < y
    · simp [h1, List.cons_lt_cons_iff]
    · by_cases h2 : x = y
      · subst h2; simp [List.cons_lt_cons_iff]
      · simp [List.cons_lt_cons_iff, h1, h2]

/-- An entry: its name, the box that it leads to, what the box holds: bytes, of which so many last. -/
structure Ent where
  nm : ByteArray
  bx : Nat
  v : Value
  bs : List UInt8
  n : Nat

abbrev DD := DataW Unit
/-- How a pointer to a box reads. -/
def ptrE (v : Value) : Option (DD × List MemPlace) := match v with
  | .pointer none => some (.lit (.bool false), [])
  | .pointer (some ⟨b, 0, none⟩) => some (.lit (.int .i64 b), [])
  | _ => none
def ptrV (o : Option Nat) : Value := .pointer (o.map fun b => ⟨b, 0, none⟩)
theorem ptrE_some (b : Nat) : ptrE (.pointer (some ⟨b, 0, none⟩)) = some (.lit (.int .i64 b), []) := rfl
theorem ptrE_none : ptrE (.pointer none) = some (.lit (.bool false), []) := rfl
theorem ptrE_inv {v : Value} {y : DD × List MemPlace} (h : ptrE v = some y) : ∃ o, v = ptrV o := by
  unfold ptrE at h
  split at h
  · exact ⟨none, rfl⟩
  · rename_i b; exact ⟨some b, rfl⟩
  · cases h
theorem ptrE_box {v : Value} {b : Nat} {ps : List MemPlace} (h : ptrE v = some (.lit (.int .i64 b), ps)) : v = .pointer (some ⟨b, 0, none⟩) := by
  obtain ⟨o, rfl⟩ := ptrE_inv h
  cases o with
  | none => simp [ptrV, ptrE] at h
  | some c =>
    have := ptrE_some c
    rw [show ptrV (some c) = .pointer (some ⟨c, 0, none⟩) from rfl, ptrE_some] at h
    injection h with h; injection h with h _; injection h with h; injection h with _ h
    have : c = b := by omega
    rw [this]; rfl
theorem ptrE_nil {v : Value} {ps : List MemPlace} (h : ptrE v = some (.lit (.bool false), ps)) : v = .pointer none := by
  obtain ⟨o, rfl⟩ := ptrE_inv h
  cases o with
  | none => rfl
  | some c =>
    rw [show ptrV (some c) = .pointer (some ⟨c, 0, none⟩) from rfl, ptrE_some] at h
    injection h with h; injection h with h _; injection h with h; cases h

def keyL (s : ByteArray) : Lit := .string (bl s)
theorem keyL_same (a b : ByteArray) : (keyL a).sameKey (keyL b) = decide (a = b) := by
  unfold keyL
  rw [Lit.sameKey]
  by_cases h : a = b
  · subst h; simp
  · have : ¬ bl a = bl b := fun e => h (bl_inj e)
    simp [h, this]
theorem keyL_inj {a b : ByteArray} (h : keyL a = keyL b) : a = b := by unfold keyL at h; injection h with h; exact bl_inj h
def entL (e : Ent) : Lit × DD := (keyL e.nm, .lit (.int .i64 e.bx))
def dmap (es : List Ent) : DD := .map (es.map entL)
def SrtE (es : List Ent) : Prop := es.Pairwise fun a b => bl a.nm < bl b.nm
def lookE (es : List Ent) (s : ByteArray) : Option Ent := es.find? fun e => decide (e.nm = s)
def delE (es : List Ent) (s : ByteArray) : List Ent := es.filter fun e => !decide (e.nm = s)
def insE (x : Ent) : List Ent → List Ent
  | [] => [x]
  | y :: r => if bl x.nm < bl y.nm then x :: y :: r else y :: insE x r
def putE (es : List Ent) (x : Ent) : List Ent := insE x (delE es x.nm)

theorem srtE_ne {es : List Ent} (h : SrtE es) : es.Pairwise fun a b => a.nm ≠ b.nm := h.imp fun {a b} hlt e => by rw [e] at hlt; exact ltB_irrefl _ hlt
theorem srtE_one {es : List Ent} (h : SrtE es) {a b : Ent} (ha : a ∈ es) (hb : b ∈ es) (e : a.nm = b.nm) : a = b := by
  induction es with
  | nil => simp at ha
  | cons x r ih =>
    unfold SrtE at h; rw [List.pairwise_cons] at h
    rcases List.mem_cons.1 ha with h1 | h1
    · rcases List.mem_cons.1 hb with h2 | h2
      · rw [h1, h2]
      · have := h.1 b h2; rw [← h1, e] at this; exact absurd this (ltB_irrefl _)
    · rcases List.mem_cons.1 hb with h2 | h2
      · have := h.1 a h1; rw [← h2, e] at this; exact absurd this (ltB_irrefl _)
      · exact ih h.2 h1 h2
theorem lookE_mem {es : List Ent} {s : ByteArray} {e : Ent} (h : lookE es s = some e) : e ∈ es ∧ e.nm = s := ⟨List.mem_of_find?_eq_some h, by simpa using List.find?_some h⟩
theorem lookE_none {es : List Ent} {s : ByteArray} (h : lookE es s = none) : ∀ e ∈ es, e.nm ≠ s := by
  intro e he; simpa using List.find?_eq_none.1 h e he
theorem lookE_of {es : List Ent} (h : SrtE es) {e : Ent} (he : e ∈ es) : lookE es e.nm = some e := by
  cases hh : lookE es e.nm with
  | none => exact absurd rfl (lookE_none hh e he)
  | some x => obtain ⟨h1, h2⟩ := lookE_mem hh; rw [srtE_one h h1 he h2]
theorem delE_none {es : List Ent} {s : ByteArray} (h : lookE es s = none) : delE es s = es := by
  unfold delE; rw [List.filter_eq_self]; intro e he; simpa using lookE_none h e he
theorem delE_sub (es : List Ent) (s : ByteArray) : (delE es s).Sublist es := List.filter_sublist
theorem delE_mem {es : List Ent} {s : ByteArray} {e : Ent} : e ∈ delE es s ↔ e ∈ es ∧ e.nm ≠ s := by simp [delE]
theorem srtE_del {es : List Ent} (h : SrtE es) (s : ByteArray) : SrtE (delE es s) := List.Pairwise.sublist (delE_sub es s) h
theorem insE_perm (x : Ent) : ∀ es, (insE x es).Perm (x :: es)
  | [] => .refl _
  | y :: r => by
    unfold insE; split
    · exact .refl _
    · exact ((insE_perm x r).cons y).trans (.swap x y r)
theorem insE_mem {x e : Ent} {es : List Ent} : e ∈ insE x es ↔ e = x ∨ e ∈ es := by rw [(insE_perm x es).mem_iff, List.mem_cons]
theorem insE_len (x : Ent) (es : List Ent) : (insE x es).length = es.length + 1 := by rw [(insE_perm x es).length_eq, List.length_cons]
theorem srtE_ins {x : Ent} : ∀ {es : List Ent}, SrtE es → (∀ e ∈ es, e.nm ≠ x.nm) → SrtE (insE x es)
  | [], _, _ => List.pairwise_singleton _ _
  | y :: r, h, hn => by
    have h' := h
    unfold SrtE at h; rw [List.pairwise_cons] at h
    unfold insE; split
    · rename_i hlt
      unfold SrtE; rw [List.pairwise_cons]
      refine ⟨fun e he => ?_, h'⟩
      rcases List.mem_cons.1 he with rfl | he
      · exact hlt
      · exact ltB_trans hlt (h.1 e he)
    · rename_i hlt
      unfold SrtE; rw [List.pairwise_cons]
      refine ⟨fun e he => ?_, srtE_ins h.2 fun e he => hn e (by simp [he])⟩
      rcases insE_mem.1 he with rfl | he
      · rcases ltB_total (bl y.nm) (bl e.nm) with k | k | k
        · exact k
        · exact absurd (bl_inj k) (hn y (by simp))
        · exact absurd k hlt
      · exact h.1 e he
theorem putE_mem {x e : Ent} {es : List Ent} : e ∈ putE es x ↔ e = x ∨ (e ∈ es ∧ e.nm ≠ x.nm) := by unfold putE; rw [insE_mem, delE_mem]
theorem srtE_put {es : List Ent} (h : SrtE es) (x : Ent) : SrtE (putE es x) := srtE_ins (srtE_del h _) fun e he => (delE_mem.1 he).2

theorem insert_dmap (x : Ent) : ∀ es : List Ent, DataW.insert (entL x) (es.map entL) = (insE x es).map entL
  | [] => rfl
  | y :: r => by
    rw [List.map_cons, DataW.insert, insE, insert_dmap x r]
    have : ((entL x).1.before (entL y).1) = decide (bl x.nm < bl y.nm) := by
      show bytesBefore _ _ = _
      rw [before_bs]
    rw [this]
    by_cases h : bl x.nm < bl y.nm
    · rw [decide_eq_true h, if_pos rfl, if_pos h]; rfl
    · rw [decide_eq_false h, if_neg (by simp), if_neg h]; rfl
theorem filter_dmap (es : List Ent) (s : ByteArray) : ((es.map entL).filter fun p => !p.1.sameKey (keyL s)) = (delE es s).map entL := by
  unfold delE
  rw [List.filter_map]
  congr 1
  apply List.filter_congr
  intro e _
  show (!(keyL e.nm).sameKey (keyL s)) = _
  rw [keyL_same]
theorem put_dmap (es : List Ent) (x : Ent) : (dmap es).put (keyL x.nm) (.lit (.int .i64 x.bx)) = dmap (putE es x) := by
  unfold dmap DataW.put putE
  simp only
  rw [filter_dmap, ← insert_dmap]; rfl
theorem del_dmap (es : List Ent) (s : ByteArray) : (dmap es).del (keyL s) = dmap (delE es s) := by
  unfold dmap DataW.del
  simp only
  rw [filter_dmap]
theorem size_dmap (es : List Ent) : Maps.size (dmap es) = es.length := by simp [dmap, Maps.size]
theorem find_dmap (s : ByteArray) : ∀ es : List Ent, (es.map entL).find? (fun p => p.1.sameKey (keyL s)) = (lookE es s).map entL
  | [] => rfl
  | e :: r => by
    unfold lookE
    rw [List.map_cons, List.find?_cons, List.find?_cons]
    have : (entL e).1.sameKey (keyL s) = decide (e.nm = s) := keyL_same _ _
    rw [this]
    cases decide (e.nm = s) with
    | true => rfl
    | false => exact find_dmap s r
theorem at_dmap {es : List Ent} {s : ByteArray} {e : Ent} (h : lookE es s = some e) (z : DD) : (dmap es).atKey (keyL s) z = .lit (.int .i64 e.bx) := by
  unfold dmap DataW.atKey
  simp only
  rw [find_dmap, h]; rfl
theorem at_dmap_none {es : List Ent} {s : ByteArray} (h : lookE es s = none) (z : DD) : (dmap es).atKey (keyL s) z = z := by
  unfold dmap DataW.atKey
  simp only
  rw [find_dmap, h]; rfl
theorem has_dmap (es : List Ent) (s : ByteArray) : Maps.has (dmap es) (keyL s) = (lookE es s).isSome := by
  cases h : lookE es s with
  | none =>
    have := find_dmap s es
    rw [h] at this
    unfold dmap Maps.has
    rw [Option.isSome_none, List.any_eq_false]
    intro p hp
    simpa using List.find?_eq_none.1 this p hp
  | some e =>
    obtain ⟨h1, rfl⟩ := lookE_mem h
    unfold dmap Maps.has
    rw [Option.isSome_some, List.any_eq_true]
    exact ⟨entL e, List.mem_map.2 ⟨e, h1, rfl⟩, by show (keyL e.nm).sameKey _ = true; rw [keyL_same]; simp⟩

/-! ### at the operation -/
theorem key_of {P : Program} {k : TypeId} (hk : P.underlying k = some .string) {s : ByteArray} (hs : s.size ≤ maxLen) : keyOf P k (.string s) = some (keyL s) := Go.WideMaps.keyOf_string_mk hk hs
theorem key_inv {P : Program} {k : TypeId} (hk : P.underlying k = some .string) {key : Value} {kl : Lit} (h : keyOf P k key = some kl) : ∃ s : ByteArray, key = .string s ∧ kl = keyL s ∧ s.size ≤ maxLen := by
  cases key <;> simp [keyOf, hk, mapKey] at h
  exact ⟨_, rfl, h.2.symm, h.1⟩
section
variable {P : Program} {w : World} {ops : Array Oper} {rest : List Oper} {o : Oper} {a : Act} {Q : Exit → Act → World → Prop}
theorem wpList_look_some (hg : o.guard = none) (m x : Operand) (t : TypeId) (hop : o.op = Op.lookup t m x true) (k e : TypeId) (hk : P.underlying k = some .string) (ht : P.underlying t = some (.map k e))
    (hz : (zeroValue e).run P w = .ok (.pointer none) w) (b n : Nat) (es : List Ent) (hm : a.eval m = .map (some b)) (hown : w.ownsMap P k ptrE b n (dmap es)) (s : ByteArray) (hx : a.eval x = .string s) (hs : s.size ≤ maxLen)
    (x0 : Ent) (hl : lookE es s = some x0) (hK : wpList P ops Q rest (a.put o.dst (.tuple #[.pointer (some ⟨x0.bx, 0, none⟩), .bool true])) w) : wpList P ops Q (o :: rest) a w :=
  wpList_lookup_own_ok w hg m x t hop k e (string_keyed hk) ht ptrE hz _ [] ptrE_none b n (dmap es) hm hown _ (keyL s) hx (key_of hk hs) (fun v ps hv => by
    rw [at_dmap hl] at hv
    obtain rfl := ptrE_box hv
    rw [has_dmap, hl]
    exact hK)
theorem wpList_look_none (hg : o.guard = none) (m x : Operand) (t : TypeId) (hop : o.op = Op.lookup t m x true) (k e : TypeId) (hk : P.underlying k = some .string) (ht : P.underlying t = some (.map k e))
    (hz : (zeroValue e).run P w = .ok (.pointer none) w) (b n : Nat) (es : List Ent) (hm : a.eval m = .map (some b)) (hown : w.ownsMap P k ptrE b n (dmap es)) (s : ByteArray) (hx : a.eval x = .string s) (hs : s.size ≤ maxLen)
    (hl : lookE es s = none) (hK : wpList P ops Q rest (a.put o.dst (.tuple #[.pointer none, .bool false])) w) : wpList P ops Q (o :: rest) a w :=
  wpList_lookup_own_ok w hg m x t hop k e (string_keyed hk) ht ptrE hz _ [] ptrE_none b n (dmap es) hm hown _ (keyL s) hx (key_of hk hs) (fun v ps hv => by
    rw [at_dmap_none hl] at hv
    obtain rfl := ptrE_nil hv
    rw [has_dmap, hl]
    exact hK)
theorem wpList_put_ptr (hg : o.guard = none) (m x v : Operand) (t : TypeId) (hop : o.op = Op.mapUpdate t m x v) (k e : TypeId) (hk : P.underlying k = some .string) (ht : P.underlying t = some (.map k e))
    (b n : Nat) (es : List Ent) (hm : a.eval m = .map (some b)) (hown : w.ownsMap P k ptrE b n (dmap es)) (hn : n < maxLen) (x0 : Ent) (hx : a.eval x = .string x0.nm) (hs : x0.nm.size ≤ maxLen) (hv : a.eval v = .pointer (some ⟨x0.bx, 0, none⟩))
    (hK : ∀ w', w'.ownsMap P k ptrE b (n + 1) (dmap (putE es x0)) → w.mapTurned w' b → wpList P ops Q rest (a.put o.dst undef) w') : wpList P ops Q (o :: rest) a w :=
  wpList_mapUpdate_in w hg m x v t hop k e (string_keyed hk) ht ptrE b n (dmap es) hm hown hn _ _ (keyL x0.nm) hx hv (key_of hk hs) _ [] (ptrE_some x0.bx) (fun w' h1 h2 => hK w' (by rwa [put_dmap] at h1) h2)
theorem wpList_del_ptr (hg : o.guard = none) (m x : Operand) (t k : TypeId) (hop : o.op = Op.call { callee := Callee.builtin Builtin.delete, args := #[m, x], argTypes := #[t, k] }) (e : TypeId) (hk : P.underlying k = some .string) (ht : P.underlying t = some (.map k e))
    (b n : Nat) (es : List Ent) (hm : a.eval m = .map (some b)) (hown : w.ownsMap P k ptrE b n (dmap es)) (s : ByteArray) (hx : a.eval x = .string s) (hs : s.size ≤ maxLen)
    (hK : ∀ w', w'.ownsMap P k ptrE b n (dmap (delE es s)) → w.mapTurned w' b → wpList P ops Q rest (a.put o.dst (.tuple #[])) w') : wpList P ops Q (o :: rest) a w :=
  wpList_delete_own w hg m x t k hop e (string_keyed hk) ht ptrE b n (dmap es) hm hown _ (keyL s) hx (key_of hk hs) (fun w' h1 h2 => hK w' (by rwa [del_dmap] at h1) h2)
/-- What is still to come, when that at a name has come. -/
def struckE (left : Lit → Bool) (s : ByteArray) : Lit → Bool := fun z => left z && !z.sameKey (keyL s)
theorem struckE_at (left : Lit → Bool) (s t : ByteArray) : struckE left s (keyL t) = (left (keyL t) && !decide (t = s)) := by unfold struckE; rw [keyL_same]
theorem wpList_next_ptr (hg : o.guard = none) (it : Operand) (hop : o.op = Op.next it false) (k : TypeId) (hk : P.underlying k = some .string) (b r n : Nat) (es : List Ent) (left : Lit → Bool) (cnt : Nat)
    (hit : a.eval it = .pointer (some ⟨r, 0, none⟩)) (h : w.ranges P k ptrE b r n (dmap es) left cnt)
    (hDone : (∀ s, left (keyL s) = false) → wpList P ops Q rest (a.put o.dst (.tuple #[.bool false])) w)
    (hMore : ∀ (e : Ent) (w' : World) (cnt' : Nat), e ∈ es → left (keyL e.nm) = true → w'.ranges P k ptrE b r n (dmap es) (struckE left e.nm) cnt' → cnt' < cnt → w.grownBy w' (some r) → w'.heap.size = w.heap.size →
      (Instr.entry (.pointer (some ⟨r, 0, none⟩))).run P w' = .ok (.tuple #[.string e.nm, .pointer (some ⟨e.bx, 0, none⟩)]) w' → wpList P ops Q rest (a.put o.dst (.tuple #[.bool true, .string e.nm, .pointer (some ⟨e.bx, 0, none⟩)])) w') :
    wpList P ops Q (o :: rest) a w :=
  wpList_next_ranges w hg it hop k (string_keyed hk) ptrE Value.string ptrV (fun key kl hkey => by obtain ⟨s, rfl, _⟩ := key_inv hk hkey; exact ⟨s, rfl⟩) (fun v y hv => ptrE_inv hv)
    b r n (dmap es) left cnt hit h (fun _ hl => hDone fun s => hl _) (fun s o kl y w' cnt' hkey hlk hv hat hrg hlt hgr hsz hen => by
      obtain ⟨s', es', rfl, hs⟩ := key_inv hk hkey
      injection es' with es'; subst es'
      cases hl : lookE es s with
      | none =>
        have h1 := hat (.lit (.bool true)); have h2 := hat (.lit (.bool false))
        rw [at_dmap_none hl] at h1 h2
        rw [← h1] at h2; injection h2 with h2; cases h2
      | some e =>
        have h1 := hat .nil
        rw [at_dmap hl] at h1
        obtain ⟨y1, y2⟩ := y
        simp only at h1
        subst h1
        have hp := ptrE_box hv
        obtain ⟨hm, rfl⟩ := lookE_mem hl
        rw [hp] at hen ⊢
        exact hMore e w' cnt' hm hlk hrg hlt hgr hsz hen)
end
end Go.Proofs.YtnmbjhpecblioaaGreatDoor
