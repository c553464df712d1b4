/-
  A disk, plainly (files by rising names), and in memory: a box with a map of names to boxes, each with bytes of its own. What holds when it is left alone, and when one of its boxes, or its map, is written.
-/
import Derived.Test.YtnmbjhpecblioaaGreatDoorDm
namespace Go.Proofs.YtnmbjhpecblioaaGreatDoor
set_option linter.unusedVariables false
set_option linter.unusedSimpArgs false
open Go.Maps Go.RowKit

/-- A file: its name, its bytes, how many of them last. -/
abbrev Fl := ByteArray × List UInt8 × Nat
def val (e : Ent) : Fl := (e.nm, e.bs, e.n)
def lookL (L : List Fl) (s : ByteArray) : Option Fl := L.find? fun f => decide (f.1 = s)
def delL (L : List Fl) (s : ByteArray) : List Fl := L.filter fun f => !decide (f.1 = s)
def insL (x : Fl) : List Fl → List Fl
  | [] => [x]
  | y :: r => if bl x.1 < bl y.1 then x :: y :: r else y :: insL x r
def putL (L : List Fl) (x : Fl) : List Fl := insL x (delL L x.1)
def updL (L : List Fl) (x : Fl) : List Fl := L.map fun f => if f.1 = x.1 then x else f
def lenL (L : List Fl) : Nat := (L.map fun f => f.2.1.length).sum
def titleC (c : Nat) : Bool := (decide (97 ≤ c) && decide (c ≤ 122)) || (decide (48 ≤ c) && decide (c ≤ 57)) || c == 45 || c == 46
def titleB (s : Bs) : Bool := decide (1 ≤ s.length) && decide (s.length ≤ 32) && s.all fun c => titleC c.toNat
def appD (room : Nat) (L : List Fl) (s : ByteArray) (b : List UInt8) : Int × List Fl :=
  if titleB (bl s) = false then (110, L)
  else match lookL L s with
    | some f => if room < lenL L + b.length then (5, L) else (0, updL L (s, f.2.1 ++ b, f.2.2))
    | none => if 64 ≤ L.length then (3, L) else if room < lenL L + b.length then (5, L) else (0, putL L (s, b, 0))
def syncD (L : List Fl) (s : ByteArray) : Int × List Fl := match lookL L s with
  | none => (4, L)
  | some f => (0, updL L (s, f.2.1, f.2.1.length))
def cutD (L : List Fl) (s : ByteArray) (n : Int) : Int × List Fl := match lookL L s with
  | none => (4, L)
  | some f => if n < 0 ∨ (f.2.1.length : Int) < n then (1, L) else (0, updL L (s, f.2.1.take n.toNat, n.toNat))
def remD (L : List Fl) (s : ByteArray) : Int × List Fl := match lookL L s with
  | none => (4, L)
  | some _ => (0, delL L s)
def swapD (L : List Fl) (s t : ByteArray) : Int × List Fl := match lookL L s with
  | none => (4, L)
  | some f => if titleB (bl t) = false then (110, L) else if f.2.2 < f.2.1.length then (7, L) else (0, putL (delL L s) (t, f.2.1, f.2.2))
def leftD (keep : Int) (f : Fl) : Nat := f.2.2 + min keep.toNat (f.2.1.length - f.2.2)
def crashF (keep : Int) (f : Fl) : Option Fl := if leftD keep f = 0 then none else some (f.1, f.2.1.take (leftD keep f), leftD keep f)
def crashD (keep : Int) (L : List Fl) : List Fl := L.filterMap (crashF keep)

theorem look_val (es : List Ent) (s : ByteArray) : lookL (es.map val) s = (lookE es s).map val := by
  unfold lookL lookE; rw [List.find?_map]; rfl
theorem del_val (es : List Ent) (s : ByteArray) : delL (es.map val) s = (delE es s).map val := by
  unfold delL delE; rw [List.filter_map]; rfl
theorem ins_val (x : Ent) : ∀ es : List Ent, insL (val x) (es.map val) = (insE x es).map val
  | [] => rfl
  | y :: r => by
    rw [List.map_cons, insL, insE, ins_val x r]
    show (if bl x.nm < bl y.nm then _ else _) = _
    split <;> rfl
theorem put_val (es : List Ent) (x : Ent) : putL (es.map val) (val x) = (putE es x).map val := by
  unfold putL putE
  rw [show (val x).1 = x.nm from rfl, del_val, ins_val]
def updE (es : List Ent) (x : Ent) : List Ent := es.map fun e => if e.nm = x.nm then x else e
theorem upd_val (es : List Ent) (x : Ent) : updL (es.map val) (val x) = (updE es x).map val := by
  unfold updL updE
  rw [List.map_map, List.map_map]
  apply List.map_congr_left
  intro e _
  simp only [Function.comp]
  show (if e.nm = x.nm then _ else _) = _
  split <;> rfl
theorem updE_mem {es : List Ent} {x e : Ent} (h : e ∈ updE es x) : (e = x ∧ ∃ f ∈ es, f.nm = x.nm) ∨ (e ∈ es ∧ e.nm ≠ x.nm) := by
  obtain ⟨f, hf, rfl⟩ := List.mem_map.1 h
  by_cases hn : f.nm = x.nm
  · rw [if_pos hn]; exact .inl ⟨rfl, f, hf, hn⟩
  · rw [if_neg hn]; exact .inr ⟨hf, hn⟩
theorem updE_of {es : List Ent} {x : Ent} {e : Ent} (he : e ∈ es) (hn : e.nm ≠ x.nm) : e ∈ updE es x := List.mem_map.2 ⟨e, he, if_neg hn⟩
theorem updE_len (es : List Ent) (x : Ent) : (updE es x).length = es.length := by simp [updE]
theorem updE_names (es : List Ent) (x : Ent) : (updE es x).map (·.nm) = es.map (·.nm) := by
  unfold updE
  rw [List.map_map]
  apply List.map_congr_left
  intro e _
  simp only [Function.comp]
  split
  · rename_i h; exact h.symm
  · rfl
theorem srtE_names {es : List Ent} : SrtE es ↔ (es.map (·.nm)).Pairwise fun a b => bl a < bl b := by unfold SrtE; rw [List.pairwise_map]
theorem srtE_upd {es : List Ent} (h : SrtE es) (x : Ent) : SrtE (updE es x) := by rw [srtE_names, updE_names, ← srtE_names]; exact h
theorem dmap_upd {es : List Ent} {x : Ent} (hx : ∀ e ∈ es, e.nm = x.nm → e.bx = x.bx) : dmap (updE es x) = dmap es := by
  unfold dmap updE
  rw [List.map_map]
  congr 1
  apply List.map_congr_left
  intro e he
  simp only [Function.comp]
  split
  · rename_i h; unfold entL; rw [h, hx e he h]
  · rfl

/-- Bytes that are there: a row of their own, or what is cut off of one so that there is no room. -/
def BytesAt (w : World) (v : Value) (xs : List UInt8) : Prop :=
  w.ownsRow 0 5 1 v xs.length (xs.map Bv) ∨ ∃ a, v = .slice (some a) xs.length xs.length ∧ Rd w (some a) (xs.map Bv) ∧ ∃ cs, w.heap[a.block]? = some (.cells cs 5 (0, 0))
theorem BytesAt.moved {w w' : World} {v : Value} {xs : List UInt8} (h : BytesAt w v xs) (hk : ∀ g, v.ownBlock = some g → w'.heap[g]? = w.heap[g]?) : BytesAt w' v xs := by
  rcases h with h | ⟨a, rfl, hr, cs, hl⟩
  · exact .inl (own_moved h hk)
  · have e := hk a.block rfl
    refine .inr ⟨a, rfl, hr.blk fun b _ hb => ?_, cs, e.trans hl⟩
    exact hk b hb
theorem BytesAt.blk {w : World} {v : Value} {xs : List UInt8} (h : BytesAt w v xs) {g : Nat} (hg : v.ownBlock = some g) : ∃ cs, w.heap[g]? = some (.cells cs 5 (0, 0)) := by
  rcases h with h | ⟨a, rfl, hr, cs, hl⟩
  · obtain ⟨_, h | ⟨g', cap, cur, rfl, _, hb, _⟩⟩ := h
    · rw [h.1] at hg; cases hg
    · injection hg with hg; subst hg; exact ⟨cur, hb⟩
  · injection hg with hg; subst hg; exact ⟨cs, hl⟩
theorem BytesAt.lt {w : World} {v : Value} {xs : List UInt8} (h : BytesAt w v xs) {g : Nat} (hg : v.ownBlock = some g) : g < w.heap.size := by
  obtain ⟨cs, hb⟩ := h.blk hg; exact blk_lt hb
theorem BytesAt.ne {w : World} {v : Value} {xs : List UInt8} (h : BytesAt w v xs) {g : Nat} {cs : Array Value} {t : TypeId} (hg : w.heap[g]? = some (.cells cs t (0, 0))) (ht : t ≠ 5) : v.ownBlock ≠ some g := by
  intro e
  obtain ⟨cs', hb⟩ := h.blk e
  rw [hb] at hg; injection hg with hg; injection hg with _ hg; exact ht hg.symm
theorem BytesAt.nil (w : World) : BytesAt w (.slice none 0 0) [] := .inl (World.ownsRow_nil w 0 5 1)
theorem BytesAt.rd {w : World} {v : Value} {xs : List UInt8} (h : BytesAt w v xs) : ∃ A c, v = .slice A xs.length c ∧ Rd w A (xs.map Bv) ∧ xs.length ≤ c ∧ (A = none → c = 0) := by
  rcases h with h | ⟨a, rfl, hr, hl⟩
  · obtain ⟨hn, h | ⟨g, cap, cur, rfl, _, hb, h1, h2, h3, h4⟩⟩ := h
    · obtain ⟨rfl, h⟩ := h
      have : xs = [] := List.eq_nil_of_length_eq_zero h
      subst this
      exact ⟨none, 0, rfl, Rd.nil w none, by simp, fun _ => rfl⟩
    · refine ⟨some ⟨g, 0, none⟩, cap, rfl, ?_, h1, fun h => by cases h⟩
      intro k v hv
      refine ⟨g, 0, rfl, ?_⟩
      rw [Nat.zero_add, cell_blk hb]
      rw [← h4, List.getElem?_take] at hv
      split at hv
      · rw [← hv]; simp
      · cases hv
  · exact ⟨some a, xs.length, rfl, hr, Nat.le_refl _, fun h => by cases h⟩

/-- The blocks of a disk. -/
def foot (db mb : Nat) (es : List Ent) (k : Nat) : Prop := k = db ∨ k = mb ∨ ∃ e ∈ es, k = e.bx ∨ e.v.ownBlock = some k
structure DiskE (w : World) (db mb room : Nat) (es : List Ent) : Prop where
  box : w.heap[db]? = some (.cells #[.map (some mb), .int .i64 (room : Nat)] 72 (0, 0))
  map : w.ownsMap Tryz.prog 9 ptrE mb es.length (dmap es)
  srt : SrtE es
  at_ : ∀ e ∈ es, w.heap[e.bx]? = some (.cells #[e.v, .int .i64 (e.n : Nat)] 92 (0, 0)) ∧ BytesAt w e.v e.bs
  apart : ∀ e ∈ es, ∀ f ∈ es, e.nm ≠ f.nm → e.bx ≠ f.bx ∧ ∀ g, e.v.ownBlock = some g → f.v.ownBlock ≠ some g
  fits : lenL (es.map val) ≤ room ∧ room ≤ 16777216 ∧ es.length ≤ 64
  each : ∀ e ∈ es, e.n ≤ e.bs.length ∧ e.nm.size ≤ 32
theorem ownsMap_tight {P : Program} {k : TypeId} {R : Value → Option (DD × List MemPlace)} {w : World} {b n : Nat} {es : List Ent} (h : w.ownsMap P k R b n (dmap es)) : w.ownsMap P k R b es.length (dmap es) := by
  obtain ⟨m, clock, hb, F, hs, hD⟩ := h
  refine ⟨m, clock, hb, F, ?_, hD⟩
  have := congrArg Maps.size hD
  rw [size_dmap] at this
  rw [this]; simp [Maps.size, length_sorted]
theorem ownsMap_moved {P : Program} {k : TypeId} {R : Value → Option (DD × List MemPlace)} {w w' : World} {b n : Nat} {D : DD} (h : w.ownsMap P k R b n D) (hk : w'.heap[b]? = w.heap[b]?) : w'.ownsMap P k R b n D := by
  obtain ⟨m, clock, hb, F, hs, hD⟩ := h
  exact ⟨m, clock, hk.trans hb, F, hs, hD⟩
theorem map_notcells {P : Program} {k : TypeId} {R : Value → Option (DD × List MemPlace)} {w : World} {b n : Nat} {D : DD} (h : w.ownsMap P k R b n D) {g : Nat} {cs : Array Value} {t : TypeId} {z : Nat × Nat} (hg : w.heap[g]? = some (.cells cs t z)) : g ≠ b := by
  obtain ⟨m, clock, hb, _⟩ := h
  rintro rfl; rw [hb] at hg; cases hg
section
variable {w w' : World} {db mb room : Nat} {es : List Ent}
theorem DiskE.lt (h : DiskE w db mb room es) {k : Nat} (hk : foot db mb es k) : k < w.heap.size := by
  rcases hk with rfl | rfl | ⟨e, he, rfl | hg⟩
  · exact blk_lt h.box
  · exact h.map.lt
  · exact blk_lt (h.at_ e he).1
  · exact (h.at_ e he).2.lt hg
theorem DiskE.moved (h : DiskE w db mb room es) (hk : ∀ k, foot db mb es k → w'.heap[k]? = w.heap[k]?) : DiskE w' db mb room es where
  box := (hk db (.inl rfl)).trans h.box
  map := ownsMap_moved h.map (hk mb (.inr (.inl rfl)))
  srt := h.srt
  at_ e he := ⟨(hk e.bx (.inr (.inr ⟨e, he, .inl rfl⟩))).trans (h.at_ e he).1, (h.at_ e he).2.moved fun g hg => hk g (.inr (.inr ⟨e, he, .inr hg⟩))⟩
  apart := h.apart
  fits := h.fits
  each := h.each
theorem DiskE.below (h : DiskE w db mb room es) (hb : Below w.heap.size w w') : DiskE w' db mb room es := h.moved fun k hk => hb.block k (h.lt hk)
end
end Go.Proofs.YtnmbjhpecblioaaGreatDoor
