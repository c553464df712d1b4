/-
  The bytes of a record's points: the program's own.
-/
import Derived.Deep.RegionHeld3
import Derived.Laws.MakeOwn
import Derived.Test.YtgogpngobdafaaaDoorJb
import Derived.Test.YtgogpngobdafaaaDoorVi
namespace Go.Proofs.YtgogpngobdafaaaDoor
set_option linter.unusedVariables false
set_option linter.unusedSimpArgs false
open Go.RowKit
/-- append of bytes that came from anywhere onto a row of the call's own; the row is written out. -/
theorem wpList_append_bytes {w : World} {ops : Array Oper} {rest : List Oper} {o : Oper} {a : Act} {Q : Exit → Act → World → Prop} (hgd : o.guard = none) (s x : Operand)
    (ho : o.op = .call { callee := .builtin .append, args := #[s, x], argTypes := #[30, 30] })
    (base : Nat) (v : Value) (xs : Bs) (hs : a.eval s = v) (hown : w.ownsRow base 5 1 v xs.length (xs.map Bv))
    (A : Option Addr) (c m : Nat) (ys : Bs) (hx : a.eval x = .slice A m c) (hm : ys.length = m) (hy : Rd w A (ys.map Bv)) (hl : xs.length + ys.length ≤ 1000000) (hbase : base ≤ w.heap.size)
    (h : ∀ A' c' w', w'.ownsRow base 5 1 (.slice A' (xs ++ ys).length c') (xs ++ ys).length ((xs ++ ys).map Bv) → w.grownBy w' v.ownBlock → wpList Tryd.prog ops Q rest (a.put o.dst (.slice A' (xs ++ ys).length c')) w') : wpList Tryd.prog ops Q (o :: rest) a w := by
  subst hm
  obtain ⟨i0, hi, hz0, hz1, hz2⟩ := info_parts infoU8
  have hml : (ys.map Bv).length = ys.length := List.length_map _
  refine wpList_append_rd hgd s x 30 ho base 5 i0 (.int .u8 0) 1 Tryd.underlying30 hi hz0 hz1 hz2 rfl v xs.length (xs.map Bv) hs hown A c (ys.map Bv) (by rw [hml]; exact hx) hy (fun u hu => by obtain ⟨y, _, rfl⟩ := List.mem_map.1 hu; rfl) (by rw [hml]; unfold maxLen; omega) (by rw [hml]; omega) hbase ?_
  intro v' w' own grow
  rw [hml, ← List.map_append, ← List.length_append] at own
  obtain ⟨A', c', e', -⟩ := own_rd own
  subst e'
  exact h A' c' w' own grow
/-- What an append leaves as it was: a block of another kind. -/
theorem kept_other {w w' : World} {base n : Nat} {v : Value} {xs : List Value} {e : TypeId} (h : w.ownsRow base e 1 v n xs) (g : w.grownBy w' v.ownBlock) {b : Nat} {cs : Array Value} {t : TypeId}
    (hb : w.heap[b]? = some (.cells cs t (0, 0))) (ht : e ≠ t) : w'.heap[b]? = some (.cells cs t (0, 0)) :=
  (g.block b (blk_lt hb) (Ne.symm (own_blk h hb ht))).trans hb
theorem madeJ_one (v : Value) (z : Nat) (h : v.cells = #[v]) : madeCells v.cells z = Array.replicate z v := by
  rw [h]
  unfold madeCells
  apply Array.ext
  · simp
  · intro i h1 h2
    simp [Nat.mod_one]
theorem zeros8 : (madeCells (Value.int .u8 0).cells (8 * 1)).toList = List.replicate 8 (Value.int .u8 0) := by rw [madeJ_one _ _ rfl]; simp
theorem set_low (k v : Nat) (h : k < 8) : (List.replicate (8 - k) (Value.int .u8 0) ++ (bigN k v).map Bv).set (7 - k) (.int .u8 ((v / 256 ^ k % 256 : Nat) : Int)) = List.replicate (8 - (k + 1)) (Value.int .u8 0) ++ (bigN (k + 1) v).map Bv := by
  have e : 8 - k = (7 - k) + 1 := by omega
  rw [e, List.replicate_succ', List.append_assoc, List.set_append_right _ _ (by simp), List.length_replicate, Nat.sub_self, bigN_cons, show 8 - (k + 1) = 7 - k by omega]
  simp only [List.singleton_append, List.set_cons_zero, List.map_cons, Bv]
  rw [ofNat_toNat' (by omega)]
section
set_option maxHeartbeats 1600000
set_option maxRecDepth 100000
theorem putv_any (v : Nat) (w : World) (hv : v < 18446744073709551616) : Calls Tryd.prog 72 #[.int .u64 (v : Nat)] w fun e w' => e = .returned (.slice (some ⟨w.heap.size, 0, none⟩) 8 8) ∧ w'.heap[w.heap.size]? = some (.cells ((bigN 8 v).map Bv).toArray 5 (0, 0)) ∧ Below w.heap.size w w' := by
  obtain ⟨i0, hi, hz0, hz1, hz2⟩ := info_parts infoU8
  go_enter Tryd.func72, Tryd.ntmps72
  go_wp2_with (first | (at_make; go_must (refine wpList_make_full _ rfl _ _ 30 rfl w.heap.size 5 i0 (.int .u8 0) 1 Tryd.underlying30 hi hz0 hz1 _ _ _ _ 8 rfl rfl rfl rfl (by rw [hz2]; omega) (by unfold maxLen; omega) (Nat.le_refl _) ?_; intro w2 hown hgr; rw [zeros8] at hown; have hb1 : RowKit.Below w.heap.size w w2 := (RowKit.Below.refl _ w).grown hgr (Nat.le_refl _) (fun k e => by cases e))) | fail)
  have hcg : w2.heap[w.heap.size]? = some (.cells (List.replicate (8 - 0) (Value.int .u8 0) ++ (bigN 0 v).map Bv).toArray 5 (0, 0)) := by
    rcases hown.2 with ⟨h1, _⟩ | ⟨g', cap', cur, e, hB, hg, hnc, hcm, hcs, htk⟩
    · cases h1
    · injection e with e1 e2 e3
      injection e1 with e1
      injection e1 with e1
      subst e1; subst e3
      have : cur.toList = List.replicate 8 (Value.int .u8 0) := by rw [← htk, List.take_of_length_le (by rw [Array.length_toList, hcs]; exact Nat.le_refl _)]
      rw [hg]
      simp only [bigN, List.map_nil, List.append_nil, Nat.sub_zero]
      rw [← this]
  have HCG := Lib.hid hcg; have HB1 := Lib.hid hb1; clear hcg hown hgr hb1 hi hz0 hz1 hz2
  go_wp2
  go_loopw [0, 8] (fun s0 s8 wr => ∃ (k n : Nat), s8 = .int .i64 k ∧ s0 = .int .u64 (n : Nat) ∧ k ≤ 8 ∧ n < 18446744073709551616 ∧ Aside (n = v / 256 ^ k) ∧ Aside (wr.heap[w.heap.size]? = some (.cells (List.replicate (8 - k) (Value.int .u8 0) ++ (bigN k v).map Bv).toArray 5 (0, 0))) ∧ Aside (RowKit.Below w.heap.size w wr)) (fun _ s8 _ => 8 - (intOf s8).toNat)
  case atStart => exact ⟨0, v, rfl, rfl, by omega, hv, (show v = v / 256 ^ 0 by simp), HCG.out, HB1.out⟩
  case round =>
    obtain ⟨k, n, rfl, rfl, hk, hn, HN, CG, BW⟩ := hrel
    by_cases hlt : k < 8
    · have k0 : (0 : Int) ≤ (k : Int) := by omega
      have k1 : (k : Int) < 8 := by omega
      have m0 : (0 : Int) ≤ 7 - (k : Int) := by omega
      have m1 : 7 - (k : Int) < 8 := by omega
      have m2 : (7 - (k : Int)).toNat = 7 - k := by omega
      have hset := set_low k v hlt
      rw [← HN.out] at hset
      have hfr := free_blk CG.out (7 - k)
      have hsz : (List.replicate (8 - k) (Value.int .u8 0) ++ (bigN k v).map Bv).length = 8 := by rw [List.length_append, List.length_replicate, List.length_map, bigN_len]; omega
      have hce : ∃ u, wr.cell? ⟨w.heap.size, 7 - k, none⟩ = some u := ⟨_, (cell_blk CG.out (7 - k)).trans (by rw [List.getElem?_toArray]; exact List.getElem?_eq_getElem (by rw [hsz]; omega))⟩
      obtain ⟨u, hu⟩ := hce
      have hst := set_blk CG.out (7 - k) (.int .u8 ((n % 256 : Nat) : Int))
      rw [List.setIfInBounds_toArray, hset] at hst
      have hdiv : n / 256 = v / 256 ^ (k + 1) := by rw [HN.out, Nat.div_div_eq_div_mul, Nat.pow_succ]
      have HST := Lib.hid hst; have HD := Lib.hid hdiv; have HBW := Lib.hid (BW.out.setCell (p := ⟨w.heap.size, 7 - k, none⟩) (Nat.le_refl _) (.int .u8 ((n % 256 : Nat) : Int)))
      clear hst hdiv hset hsz CG BW HN
      go_wp2
      go_roundw
      case rel => exact ⟨k + 1, n / 256, by go_num, by go_num, by omega, by omega, (show Aside _ from HD.out), (show Aside _ from HST.out), (show Aside _ from HBW.out)⟩
      case measure => simp [intOf]; omega
    · obtain rfl : k = 8 := by omega
      go_wp2
      go_ret
      exact ⟨rfl, CG.out, BW.out⟩
end
end Go.Proofs.YtgogpngobdafaaaDoor
