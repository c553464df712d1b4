/-
  slices.IndexFunc over labels: the first one of which a function value says so, whatever memory that takes of its own.
  slices.DeleteFunc over labels of the call's own: those of which a function value says nothing stay, in order.
  slices.DeleteFunc over labels of the call's own: the walk.
-/
import Derived.Deep.LoopGhost
import Derived.Shelf.Abstract
import Derived.Laws.CopyRow
import Derived.Test.YtgibcfeioljofaaGreatDoorLr
namespace Go.Proofs.YtgibcfeioljofaaGreatDoor
set_option linter.unusedVariables false
set_option linter.unusedSimpArgs false
section
set_option linter.unusedVariables false
set_option linter.unusedSimpArgs false
open Go.RowKit
/-- A function value tells of a label, in whatever world of a class, what p says, and turns nothing that was there. -/
def Tells (g : Nat) (lb : Array Value) (p : Lb → Bool) (S : World → Prop) : Prop :=
  ∀ (W : World) (x : Lb), S W → Calls Tryz.prog g (#[.agg #[.string x.1, .string x.2]] ++ lb) W fun e w' => e = .returned (.bool (p x)) ∧ Below W.heap.size W w'
def idxP (p : Lb → Bool) (l : List Lb) : Int := if l.findIdx p < l.length then (l.findIdx p : Nat) else -1
section
set_option maxHeartbeats 1600000
set_option maxRecDepth 100000
theorem ifn_any (A : Option Addr) (c : Nat) (l : List Lb) (w : World) (g : Nat) (lb : Array Value) (p : Lb → Bool) (S : World → Prop) (eg : ∀ args w, (callFunc g args).run Tryz.prog w = .ok (.enter g args) w)
    (hp : Tells g lb p S) (hS : ∀ W, Below w.heap.size w W → S W) (hx : Rd w A (lcells l)) (hl : l.length ≤ 1000000) :
    Calls Tryz.prog 85 #[.slice A l.length c, .func (.func g) #[] lb] w fun e w' => e = .returned (.int .i64 (idxP p l)) ∧ Below w.heap.size w w' := by
  obtain ⟨R, hR⟩ : ∃ R, R = idxP p l := ⟨_, rfl⟩
  rw [← hR]
  have HR := Lib.hid hR; clear hR
  have HP := Lib.hid hp; clear hp
  have HS := Lib.hid hS; clear hS
  go_enter Tryz.func85, Tryz.ntmps85
  go_wp2
  go_loopw [8] (fun s8 wr => ∃ k : Nat, k ≤ l.length ∧ s8 = .int .i64 k ∧ Aside (Below w.heap.size w wr) ∧ Aside (∀ j, (h : j < k) → (h' : j < l.length) → p l[j] = false)) (fun s8 _ => l.length - (intOf s8).toNat)
  case atStart => exact ⟨0, Nat.zero_le _, rfl, Below.refl _ w, fun j hj => absurd hj (Nat.not_lt_zero _)⟩
  case round =>
    obtain ⟨k, hk, rfl, B, F⟩ := hrel
    by_cases hlt : k < l.length
    · have hxr := hx.below B.out
      obtain ⟨b, off, rfl, c0, c1⟩ := lb_at hxr hlt
      have hcall := HP.out wr l[k] (HS.out wr B.out)
      generalize hy : l[k] = y at c0 c1 hcall
      have HY := Lib.hid hy; clear hy hxr hx
      obtain ⟨y1, y2⟩ := y
      have k0 : (0 : Int) ≤ (k : Int) := by omega
      have k1 : (k : Int) < (l.length : Int) := by omega
      cases hq : p (y1, y2) with
      | true =>
        rw [hq] at hcall
        have HQ := Lib.hid hq; clear hq
        have HC := Lib.hid hcall; clear hcall
        go_wp2_with (first | (go_at_fn g; refine HC.out.mono ?_; rintro e w1 ⟨rfl, hb⟩) | fail)
        go_ret
        refine ⟨?_, B.out.trans (hb.mono B.out.size)⟩
        rw [HR.out]
        unfold idxP
        have : l.findIdx p = k := by
          rw [List.findIdx_eq hlt]
          exact ⟨by rw [HY.out]; exact HQ.out, fun j hj => F.out j hj (by omega)⟩
        rw [this, if_pos hlt]
        rfl
      | false =>
        rw [hq] at hcall
        have HQ := Lib.hid hq; clear hq
        have HC := Lib.hid hcall; clear hcall
        go_wp2_with (first | (go_at_fn g; refine HC.out.mono ?_; rintro e w1 ⟨rfl, hb⟩) | fail)
        go_roundw
        case rel =>
          refine ⟨k + 1, by omega, by go_num, (show Aside _ from B.out.trans (hb.mono B.out.size)), (show Aside _ from fun j hj hj' => ?_)⟩
          by_cases e : j = k
          · subst e; rw [HY.out]; exact HQ.out
          · exact F.out j (by omega) hj'
        case measure => simp [intOf]; omega
    · obtain rfl : k = l.length := by omega
      go_wp2
      go_ret
      refine ⟨?_, B.out⟩
      rw [HR.out]
      unfold idxP
      have hn : ¬ l.findIdx p < l.length := fun h => by
        have := List.findIdx_getElem (w := h)
        rw [F.out _ h h] at this
        cases this
      rw [if_neg hn]
      rfl
end
end
section
set_option linter.unusedVariables false
set_option linter.unusedSimpArgs false
open Go.RowKit
def dropP (p : Lb → Bool) (l : List Lb) : List Lb := l.filter fun x => !p x
theorem lcells_set : ∀ (l : List Lb) (i : Nat) (x : Lb) (tl : List Value), i < l.length →
    (((lcells l ++ tl).set (i * 2) (.string x.1)).set (i * 2 + 1) (.string x.2)) = lcells (l.set i x) ++ tl
  | [], i, x, tl, h => absurd h (Nat.not_lt_zero _)
  | y :: r, 0, x, tl, h => rfl
  | y :: r, i + 1, x, tl, h => by
    rw [show (i + 1) * 2 = (i * 2 + 1) + 1 by omega, show i * 2 + 1 + 1 + 1 = (i * 2 + 1 + 1) + 1 by omega]
    simp only [lcells, List.cons_append, List.set_cons_succ]
    rw [lcells_set r i x tl (by simpa using h)]
/-- The state of the pass: j labels seen, i of them kept at the head, the rest as it was. -/
structure Kept (p : Lb → Bool) (l m : List Lb) (i j : Nat) : Prop where
  len : m.length = l.length
  lt : i < j
  le : j ≤ l.length
  head : m.take i = dropP p (l.take j)
  rest : ∀ k, j ≤ k → m[k]? = l[k]?
theorem Kept.ilen {p : Lb → Bool} {l m : List Lb} {i j : Nat} (h : Kept p l m i j) : (dropP p (l.take j)).length = i := by
  rw [← h.head, List.length_take]; have := h.len; have := h.lt; have := h.le; omega
theorem Kept.skip {p : Lb → Bool} {l m : List Lb} {i j : Nat} (h : Kept p l m i j) (hj : j < l.length) (hp : p l[j] = true) : Kept p l m i (j + 1) where
  len := h.len
  lt := by have := h.lt; omega
  le := hj
  head := by rw [h.head, List.take_succ_eq_append_getElem hj, dropP, dropP, List.filter_append]; simp [hp]
  rest := fun k hk => h.rest k (by omega)
theorem Kept.keep {p : Lb → Bool} {l m : List Lb} {i j : Nat} (h : Kept p l m i j) (hj : j < l.length) (hp : p l[j] = false) : Kept p l (m.set i l[j]) (i + 1) (j + 1) where
  len := by simp [h.len]
  lt := by have := h.lt; omega
  le := hj
  head := by
    have hi : i < m.length := by have := h.lt; have := h.len; omega
    rw [List.take_succ_eq_append_getElem (by simpa using hi), List.take_succ_eq_append_getElem hj]
    rw [dropP, List.filter_append, List.getElem_set_self, List.take_set_of_le (Nat.le_refl i), h.head]
    simp [dropP, hp]
  rest := fun k hk => by rw [List.getElem?_set_ne (by have := h.lt; omega)]; exact h.rest k (by omega)
theorem Kept.start {p : Lb → Bool} {l : List Lb} (h : l.findIdx p < l.length) : Kept p l l (l.findIdx p) (l.findIdx p + 1) where
  len := rfl
  lt := Nat.lt_succ_self _
  le := h
  head := by
    rw [List.take_succ_eq_append_getElem h]
    simp only [dropP, List.filter_append]
    have h1 : (l.take (l.findIdx p)).filter (fun x => !p x) = l.take (l.findIdx p) := by
      rw [List.filter_eq_self]
      intro x hx
      obtain ⟨k, hk, rfl⟩ := List.mem_iff_getElem.1 hx
      rw [List.length_take] at hk
      rw [List.getElem_take]
      have := List.not_of_lt_findIdx (p := p) (xs := l) (i := k) (by omega)
      simpa using this
    rw [h1]
    have := List.findIdx_getElem (w := h)
    simp [this]
  rest := fun _ _ => rfl
theorem own_parts {w : World} {B g cap : Nat} {l : List Lb} (h : w.ownsRow B 26 2 (.slice (some ⟨g, 0, none⟩) l.length cap) l.length (lcells l)) :
    B ≤ g ∧ l.length ≤ cap ∧ cap ≤ maxLen ∧ ∃ tl : List Value, (lcells l ++ tl).length = cap * 2 ∧ w.heap[g]? = some (.cells (lcells l ++ tl).toArray 26 (0, 0)) := by
  rcases h.2 with ⟨h1, _⟩ | ⟨g', cap', cur, e, hB, hg, hnc, hcm, hcs, htk⟩
  · cases h1
  · injection e with e1 e2 e3
    injection e1 with e1
    injection e1 with e1
    subst e1; subst e3
    refine ⟨hB, hnc, hcm, cur.toList.drop (l.length * 2), ?_, ?_⟩
    · rw [← htk, List.take_append_drop, Array.length_toList, hcs]
    · rw [← htk, List.take_append_drop]; exact hg
theorem own_made {w : World} {B g cap n : Nat} {l : List Lb} {tl : List Value} (hB : B ≤ g) (hn : n = l.length) (h1 : l.length ≤ cap) (h2 : cap ≤ maxLen) (h3 : (lcells l ++ tl).length = cap * 2) (hg : w.heap[g]? = some (.cells (lcells l ++ tl).toArray 26 (0, 0))) :
    w.ownsRow B 26 2 (.slice (some ⟨g, 0, none⟩) n cap) n (lcells l) := by
  subst hn
  refine ⟨lcells_len l, .inr ⟨g, cap, _, rfl, hB, hg, h1, h2, by simpa using h3, ?_⟩⟩
  rw [List.toList_toArray, List.take_append_of_le_length (by rw [lcells_len]; exact Nat.le_refl _), List.take_of_length_le (by rw [lcells_len]; exact Nat.le_refl _)]
section
set_option maxHeartbeats 1600000
set_option maxRecDepth 100000
theorem own_rd2 {w : World} {g : Nat} {l : List Lb} {tl : List Value} (hg : w.heap[g]? = some (.cells (lcells l ++ tl).toArray 26 (0, 0))) : Rd w (some ⟨g, 0, none⟩) (lcells l) := by
  intro k v hv
  refine ⟨g, 0, rfl, ?_⟩
  rw [Nat.zero_add, cell_blk hg k, List.getElem?_toArray, List.getElem?_append_left (List.getElem?_eq_some_iff.1 hv).1, hv]
theorem run_clear_lb (w : World) (g o n c : Nat) (cur : Array Value) (hg : w.heap[g]? = some (.cells cur 26 (0, 0))) (hfit : o + n * 2 ≤ cur.size) :
    ∃ w', (∀ ty, (Builtin.clear_ #[23] ty #[.slice (some ⟨g, o, none⟩) n c]).run Tryz.prog w = .ok (.tuple #[]) w') ∧ Mv (· = g) w w' ∧ ∃ cur', w'.heap[g]? = some (.cells cur' 26 (0, 0)) ∧ cur'.size = cur.size ∧ cur'.toList.take o = cur.toList.take o := by
  have hsz : (Builtin.zeroCells #[.string ⟨#[]⟩, .string ⟨#[]⟩] n).toList.length = n * 2 := by simp [Builtin.zeroCells]
  have h1 : ∀ v ∈ (Builtin.zeroCells #[.string ⟨#[]⟩, .string ⟨#[]⟩] n).toList, v.oneCell' = true := by
    intro v hv
    have : v = .string ⟨#[]⟩ := by
      simp [Builtin.zeroCells] at hv
      obtain ⟨a, ha, rfl⟩ := hv
      have : a % 2 = 0 ∨ a % 2 = 1 := by omega
      rcases this with h | h <;> simp [h]
    rw [this]; rfl
  have hst := run_storeCells_at Tryz.prog g o 26 (Builtin.zeroCells #[.string ⟨#[]⟩, .string ⟨#[]⟩] n).toList 0 cur w hg (by rw [hsz]; omega) h1
  simp only [Nat.add_zero] at hst
  have hv : ∀ w, (zeroValue 26).run Tryz.prog w = .ok (.agg #[.string ⟨#[]⟩, .string ⟨#[]⟩]) w := Tryz.zeroValue26
  cases n with
  | zero => exact ⟨w, fun _ => rfl, Mv.refl _ w, cur, hg, rfl, rfl⟩
  | succ n =>
    obtain ⟨cur2, hc2, hst⟩ : ∃ cur2, cur2 = _ ∧ (storeCells ⟨g, o, none⟩ (Builtin.zeroCells #[.string ⟨#[]⟩, .string ⟨#[]⟩] (n + 1)).toList 0).run Tryz.prog w = .ok () (w.setRow g cur2) := ⟨_, rfl, hst⟩
    refine ⟨w.setRow g cur2, ?_, ⟨rfl, rfl, rfl, by simp, fun k _ hk => setRow_other _ _ _ _ hk⟩, cur2, setRow_heap w g cur _ _ _ hg, ?_, ?_⟩
    rotate_left 1
    · subst hc2; have := hsz; simp only [List.size_toArray, List.length_append, List.length_take, List.length_drop, Array.length_toList] at this ⊢; omega
    · subst hc2; rw [List.toList_toArray, List.append_assoc, List.take_append_of_le_length (by simp; omega), List.take_take, Nat.min_self]
    · intro ty
      have ht := run_underlying (P := Tryz.prog) Tryz.underlying23
      simp only [Builtin.clear_, List.getElem?_toArray, List.getElem?_cons_zero, Sem.run_bind, ht, hv, Result.andThen_ok, Value.cells, hst, Sem.run_pure]
end
end
section
set_option linter.unusedVariables false
set_option linter.unusedSimpArgs false
open Go.RowKit
theorem lc_at0 {m : List Lb} {tl : List Value} {i : Nat} (h : i < m.length) : (lcells m ++ tl).toArray[i * 2]? = some (.string m[i].1) := by
  rw [List.getElem?_toArray, List.getElem?_append_left (by rw [lcells_len]; omega), lcells_fst m i h]
theorem lc_at1 {m : List Lb} {tl : List Value} {i : Nat} (h : i < m.length) : (lcells m ++ tl).toArray[i * 2 + 1]? = some (.string m[i].2) := by
  rw [List.getElem?_toArray, List.getElem?_append_left (by rw [lcells_len]; omega), lcells_snd m i h]
/-- Behind a new block, and behind what turned nothing. -/
theorem mv_box {S : Nat → Prop} {w wr w2 : World} {o : Obj} (h : Mv S w wr) (hb : Below (wr.alloc o).heap.size (wr.alloc o) w2) : Mv S w w2 :=
  (h.alloc o).trans (T := fun _ => False) (Mv.of_below hb _) (fun _ _ h => h.elim)
section
set_option maxHeartbeats 1600000
set_option maxRecDepth 100000
theorem delf_none (A : Option Addr) (c : Nat) (w : World) (g : Nat) (lb : Array Value) (p : Lb → Bool) (S : World → Prop) (eg : ∀ args w, (callFunc g args).run Tryz.prog w = .ok (.enter g args) w)
    (hp : Tells g lb p S) (hS : ∀ W, Below w.heap.size w W → S W) :
    Calls Tryz.prog 53 #[.slice A 0 c, .func (.func g) #[] lb] w fun e w' => e = .returned (.slice A 0 c) ∧ Below w.heap.size w w' := by
  have hcall := ifn_any A c [] w g lb p S eg hp hS (Rd.nil _ _) (by simp)
  have HC := Lib.hid hcall; clear hcall
  go_enter Tryz.func53, Tryz.ntmps53
  go_wp2_with (first | (go_at_call 85; refine HC.out.mono ?_; rintro e w1 ⟨rfl, hb⟩) | fail)
  go_ret
  exact ⟨rfl, hb⟩
theorem delf_some (B g c : Nat) (l : List Lb) (w : World) (gl : Nat) (lb : Array Value) (p : Lb → Bool) (S : World → Prop) (eg : ∀ args w, (callFunc gl args).run Tryz.prog w = .ok (.enter gl args) w)
    (hp : Tells gl lb p S) (hS : ∀ W, Mv (· = g) w W → S W) (hx : w.ownsRow B 26 2 (.slice (some ⟨g, 0, none⟩) l.length c) l.length (lcells l)) (hl : l.length ≤ 1000000) :
    Calls Tryz.prog 53 #[.slice (some ⟨g, 0, none⟩) l.length c, .func (.func gl) #[] lb] w fun e w' => e = .returned (.slice (some ⟨g, 0, none⟩) (dropP p l).length c) ∧
      w'.ownsRow B 26 2 (.slice (some ⟨g, 0, none⟩) (dropP p l).length c) (dropP p l).length (lcells (dropP p l)) ∧ Mv (· = g) w w' := by
  obtain ⟨hB, hlc, hcm, tl, htl, hg⟩ := own_parts hx
  have hgl := blk_lt hg
  have hcall := ifn_any (some ⟨g, 0, none⟩) c l w gl lb p S eg hp (fun W hb => hS W (Mv.of_below hb _)) (own_rd2 hg) hl
  have HX := Lib.hid hx; clear hx
  have HP := Lib.hid hp; clear hp
  have HS := Lib.hid hS; clear hS
  obtain ⟨i0, hi0⟩ : ∃ i0, i0 = l.findIdx p := ⟨_, rfl⟩
  by_cases hlt : i0 < l.length
  · have he : idxP p l = (i0 : Int) := by unfold idxP; rw [← hi0, if_pos hlt]
    rw [he] at hcall
    have HC := Lib.hid hcall; clear hcall he
    have hst : Kept p l l i0 (i0 + 1) := by rw [hi0]; exact Kept.start (by rw [← hi0]; exact hlt)
    have HST := Lib.hid hst; clear hst hi0
    have hn1 : ((i0 : Int) == -1) = false := beq_eq_false_iff_ne.2 (by omega)
    obtain ⟨R, hR⟩ : ∃ R, R = dropP p l := ⟨_, rfl⟩
    rw [← hR]
    have HR := Lib.hid hR; clear hR
    have HG := Lib.hid hg; clear hg
    go_enter Tryz.func53, Tryz.ntmps53
    go_wp2_with (first | (go_at_call 85; refine HC.out.mono ?_; rintro e w1 ⟨rfl, hb1⟩) | fail)
    have hg1 := (hb1.block g hgl).trans HG.out
    have HM1 := Lib.hid (Mv.of_below hb1 (· = g)); clear hb1
    have HG1 := Lib.hid hg1; clear hg1
    go_loopw [5, 6] (fun s5 s6 wr => ∃ (i j : Nat) (m : List Lb), s5 = .int .i64 i ∧ s6 = .int .i64 j ∧ Aside (Kept p l m i j) ∧ Aside (Mv (· = g) w wr) ∧ Aside (wr.heap[g]? = some (.cells (lcells m ++ tl).toArray 26 (0, 0)))) (fun _ s6 _ => l.length - (intOf s6).toNat)
    case atStart => exact ⟨i0, i0 + 1, l, rfl, by go_num, HST.out, HM1.out, HG1.out⟩
    case round =>
      obtain ⟨i, j, m, rfl, rfl, K, M, G⟩ := hrel
      have hij := K.out.lt
      have hjl := K.out.le
      have hml := K.out.len
      by_cases hjt : j < l.length
      · have k0 : (0 : Int) ≤ (j : Int) := by omega
        have k1 : (j : Int) < (l.length : Int) := by omega
        have hjm : j < m.length := by omega
        have hgl' := blk_lt G.out
        obtain ⟨b, off, e, c0, c1⟩ := lb_at (own_rd2 G.out) hjm
        injection e with e; injection e with e1 e2 _; subst e1; subst e2
        rw [Nat.zero_add] at c0 c1
        have hmj : m[j] = l[j] := by have := K.out.rest j (Nat.le_refl _); rw [List.getElem?_eq_getElem hjm, List.getElem?_eq_getElem hjt] at this; exact Option.some.inj this
        rw [hmj] at c0 c1
        clear hmj
        have hbox : ∀ x : Lb, Mv (· = g) w (wr.alloc (.cells #[.string x.1, .string x.2] 26)) := fun x => M.out.alloc _
        have hcall := HP.out (wr.alloc (.cells #[.string l[j].1, .string l[j].2] 26)) l[j] (HS.out _ (hbox _))
        generalize hy : l[j] = y at c0 c1 hcall
        have HY := Lib.hid hy; clear hy hbox
        obtain ⟨y1, y2⟩ := y
        have k2 : (0 : Int) ≤ (i : Int) := by omega
        have k3 : (i : Int) < (l.length : Int) := by omega
        cases hq : p (y1, y2) with
        | true =>
          rw [hq] at hcall
          have HQ := Lib.hid hq; clear hq
          have HC := Lib.hid hcall; clear hcall
          go_wp2_with (first | (go_at_fn gl; refine HC.out.mono ?_; rintro e w2 ⟨rfl, hb⟩; have HB := Lib.hid hb; clear hb) | fail)
          have hM2 := mv_box M.out HB.out
          go_roundw
          case rel =>
            exact ⟨i, j + 1, m, rfl, by go_num, (show Aside _ from K.out.skip hjt (by rw [HY.out]; exact HQ.out)), (show Aside _ from hM2), (show Aside _ from (HB.out.block g (by simp; omega)).trans ((heap_alloc_old _ _ hgl').trans G.out))⟩
          case measure => simp [intOf]; omega
        | false =>
          rw [hq] at hcall
          have HQ := Lib.hid hq; clear hq
          have HC := Lib.hid hcall; clear hcall
          have him : i < m.length := by omega
          go_wp2_with (first | (go_at_fn gl; refine HC.out.mono ?_; rintro e w2 ⟨rfl, hb⟩; have hbx := (hb.block wr.heap.size (by simp)).trans (heap_alloc_new wr _); have d0 := cell_blk hbx 0; have d1 := cell_blk hbx 1; have hg2 := (hb.block g (by simp; omega)).trans ((heap_alloc_old wr _ hgl').trans G.out); have f0 := free_blk hg2 (i * 2); have f1 := free_blk hg2 (i * 2 + 1); have o0 := cell_blk hg2 (i * 2); have o1 := cell_blk hg2 (i * 2 + 1); rw [lc_at0 him] at o0; rw [lc_at1 him] at o1; simp only [List.getElem?_toArray, List.getElem?_cons_zero, List.getElem?_cons_succ] at d0 d1; have HB := Lib.hid hb; clear hb; have HBX := Lib.hid hbx; clear hbx; have HG2 := Lib.hid hg2; clear hg2) | fail)
          have hG3 := set_blk HG2.out (i * 2) (.string y1)
          have hG4 := set_blk hG3 (i * 2 + 1) (.string y2)
          have hM4 := ((mv_box M.out HB.out).setCell (p := ⟨g, i * 2, none⟩) (fun _ => rfl) (.string y1)).setCell (p := ⟨g, i * 2 + 1, none⟩) (fun _ => rfl) (.string y2)
          go_roundw
          case rel =>
            refine ⟨i + 1, j + 1, m.set i (y1, y2), by go_num, by go_num, (show Aside _ from ?_), (show Aside _ from hM4), (show Aside _ from ?_)⟩
            · have := K.out.keep hjt (by rw [HY.out]; exact HQ.out)
              rwa [HY.out] at this
            · rw [hG4, List.setIfInBounds_toArray, List.setIfInBounds_toArray, lcells_set m i (y1, y2) tl him]; exact rfl
          case measure => simp [intOf]; omega
      · obtain rfl : j = l.length := by omega
        have hlen : (lcells m ++ tl).length = c * 2 := by rw [← htl, List.length_append, List.length_append, lcells_len, lcells_len, hml]
        have hlt3 : (lcells m).length = m.length * 2 := lcells_len m
        obtain ⟨w3, hrun, hM3, cur', hcur, hsz, htk⟩ := run_clear_lb wr g (i * 2) (l.length - i) (c - i) (lcells m ++ tl).toArray G.out (by rw [List.size_toArray, List.length_append, hlt3]; omega)
        have k2 : (0 : Int) ≤ (i : Int) := by omega
        have k3 : (i : Int) ≤ (l.length : Int) := by omega
        have k4 : (i : Int) ≤ (c : Int) := by omega
        have k5 : (l.length : Int) ≤ (c : Int) := by omega
        have hi' : i ≠ c := by omega
        have hM := M.out.trans hM3 (fun _ _ h => h)
        have HM := Lib.hid hM; clear hM hM3
        have HCU := Lib.hid hcur; clear hcur
        have HSZ := Lib.hid hsz; clear hsz
        have HTK := Lib.hid htk; clear htk
        have HLEN := Lib.hid hlen; clear hlen hlt3 htl
        go_wp2
        go_ret
        have hil := K.out.ilen
        rw [List.take_of_length_le (Nat.le_refl _), ← HR.out] at hil
        rw [hil]
        refine ⟨rfl, ?_, HM.out⟩
        have e1 : cur'.toList.take (i * 2) = lcells R := by
          rw [HTK.out, List.take_append_of_le_length (by rw [lcells_len]; omega), ← lcells_take, K.out.head, List.take_of_length_le (Nat.le_refl _), ← HR.out]
        have e2 : cur' = (lcells R ++ cur'.toList.drop (i * 2)).toArray := by rw [← e1, List.take_append_drop]
        have hc' := HCU.out
        rw [e2] at hc'
        refine own_made hB hil.symm (by omega) hcm ?_ hc'
        rw [← e1, List.take_append_drop, Array.length_toList, HSZ.out, List.size_toArray]; exact HLEN.out
  · have he : idxP p l = -1 := by unfold idxP; rw [← hi0, if_neg hlt]
    rw [he] at hcall
    have HC := Lib.hid hcall; clear hcall
    have hr : dropP p l = l := by
      unfold dropP
      rw [List.filter_eq_self]
      intro x hx'
      have h2 : l.findIdx p = l.length := by have := List.findIdx_le_length (p := p) (xs := l); omega
      rw [List.findIdx_eq_length] at h2
      simp [h2 x hx']
    rw [hr]
    clear hr hi0
    have HG := Lib.hid hg; clear hg
    go_enter Tryz.func53, Tryz.ntmps53
    go_wp2_with (first | (go_at_call 85; refine HC.out.mono ?_; rintro e w1 ⟨rfl, hb⟩) | fail)
    go_ret
    exact ⟨rfl, own_moved HX.out (fun k e => hb.block k (HX.out.lt k e).2), Mv.of_below hb _⟩
end
end
end Go.Proofs.YtgibcfeioljofaaGreatDoor
