/-
  An index: a label more of a series.
-/
import Derived.Deep.RegionHeld3
import Derived.Deep.RegionLaw
import Derived.Maps.AppendAt
import Derived.Test.YtjgappbomohlcaaGreatDoorKUto
import Derived.Test.YtjgappbomohlcaaGreatDoorKPq1
namespace Go.Proofs.YtjgappbomohlcaaGreatDoor
section
set_option linter.unusedVariables false
set_option linter.unusedSimpArgs false
open Go.RowKit
/-- An index that was changed: what it is then, and that all else is as it was. -/
def IxTo (w : World) (xb : Nat) (G : Gh) (L : List Ser) (F : Fp) (w' : World) : Prop :=
  ∃ G', IxF w' xb L F G' ∧ Mv (fun k => G.tg k ≠ .no) w w' ∧ ∀ k, G'.tg k ≠ .no → G.tg k ≠ .no ∨ w.heap.size ≤ k
/-- The same, and the third map and the maps of its names are where they were. -/
def IxTm (w : World) (xb : Nat) (G : Gh) (L : List Ser) (F : Fp) (w' : World) : Prop :=
  ∃ G', IxF w' xb L F G' ∧ Mv (fun k => G.tg k ≠ .no) w w' ∧ (∀ k, G'.tg k ≠ .no → G.tg k ≠ .no ∨ w.heap.size ≤ k) ∧ G'.mb = G.mb ∧ G'.pb = G.pb
theorem IxTm.to {w w' : World} {xb : Nat} {G : Gh} {L : List Ser} {F : Fp} (h : IxTm w xb G L F w') : IxTo w xb G L F w' := by
  obtain ⟨G', a, b, c, _⟩ := h
  exact ⟨G', a, b, c⟩
theorem keys_le {κ : Type} [DecidableEq κ] {es : List (κ × Value)} (hn : (es.map (·.1)).Nodup) {l : List κ} (h : ∀ a, (lkG es a).isSome = true → a ∈ l) : es.length ≤ l.length := by
  have := nodup_le hn fun a ha => h a (by
    cases hl : lkG es a with
    | none => exact absurd ha (lk_none.1 hl)
    | some v => rfl)
  rwa [List.length_map] at this
theorem flat_le {α β : Type} (f : α → List β) (m : Nat) : ∀ l : List α, (∀ x ∈ l, (f x).length ≤ m) → (l.flatMap f).length ≤ l.length * m
  | [], _ => by simp
  | x :: r, h => by
    rw [List.flatMap_cons, List.length_append, List.length_cons, Nat.add_mul]
    have h1 := h x List.mem_cons_self
    have h2 := flat_le f m r fun y hy => h y (List.mem_cons_of_mem _ hy)
    omega
/-- Series that are no more than an index has, and one in the making. -/
def SmallM (M : List Ser) : Prop := M.length ≤ 4097 ∧ ∀ s ∈ M, s.2.length ≤ 16
theorem restF_some {M : List Ser} {n : ByteArray} {g : ByteArray → Option (List Nat)} (h : restF M n = some g) : g = vlF M n ∧ ∃ v, hasL M (n, v) ≠ [] := by
  unfold restF at h
  split at h
  · rename_i hv; injection h with h; exact ⟨h.symm, hv⟩
  · cases h
theorem post_le {w : World} {G : Gh} {M : List Ser} (h : PostE w G (restF M)) (hM : SmallM M) : G.pE.length ≤ 100000 ∧ ∀ n g, restF M n = some g → (G.iE n).length ≤ 100000 ∧ ∀ v l, g v = some l → l.length ≤ 4097 := by
  have hmem : ∀ n v, hasL M (n, v) ≠ [] → (n, v) ∈ M.flatMap (·.2) := fun n v hv => by
    obtain ⟨k, hk⟩ := List.exists_mem_of_ne_nil _ hv
    obtain ⟨s, hs, _, hx⟩ := hasL_mem.1 hk
    exact List.mem_flatMap.2 ⟨s, hs, hx⟩
  have hlen := flat_le (fun s : Ser => s.2) 16 M hM.2
  have hm1 := hM.1
  refine ⟨?_, fun n g hg => ?_⟩
  · have := keys_le h.pm.nd (l := (M.flatMap (·.2)).map (·.1)) fun n hn => by
      rw [h.pl, Option.isSome_map] at hn
      cases hg : restF M n with
      | none => rw [hg] at hn; cases hn
      | some g =>
        obtain ⟨_, v, hv⟩ := restF_some hg
        exact List.mem_map.2 ⟨_, hmem n v hv, rfl⟩
    rw [List.length_map] at this
    omega
  · obtain ⟨rfl, _⟩ := restF_some hg
    obtain ⟨i1, i2, i3⟩ := h.im n _ hg
    constructor
    · have := keys_le i1.nd (l := (M.flatMap (·.2)).map (·.2)) fun v hv => by
        rw [i3, Option.isSome_map] at hv
        unfold vlF at hv
        split at hv
        · cases hv
        · rename_i hne
          exact List.mem_map.2 ⟨_, hmem n v hne, rfl⟩
      rw [List.length_map] at this
      omega
    · intro v l hl
      unfold vlF at hl
      split at hl
      · cases hl
      · injection hl with hl; rw [← hl]; exact Nat.le_trans (hasL_len _ _) hm1
theorem IxTo.trans {w w1 w2 : World} {xb : Nat} {L L1 : List Ser} {F F1 : Fp} {G G1 : Gh} (hm : Mv (fun k => G.tg k ≠ .no) w w1) (hs : ∀ k, G1.tg k ≠ .no → G.tg k ≠ .no ∨ w.heap.size ≤ k) (k : IxTo w1 xb G1 L1 F1 w2) : IxTo w xb G L1 F1 w2 := by
  obtain ⟨G2, h2, m2, s2⟩ := k
  refine ⟨G2, h2, hm.trans m2 fun i hi ht => ?_, fun i hi => ?_⟩
  · rcases hs i ht with h | h
    · exact h
    · omega
  · rcases s2 i hi with h | h
    · exact hs i h
    · exact .inr (Nat.le_trans hm.size h)
theorem step_append_u {w : World} {ops : Array Oper} {o : Oper} {a : Act} {K : Act → World → Prop} {Q : Exit → Act → World → Prop} {E : Prop} (hgd : o.guard = none) (s x : Operand)
    (ho : o.op = .call { callee := .builtin .append, args := #[s, x], argTypes := #[49, 49] })
    (base : Nat) (v : Value) (xs : List Nat) (hs : a.eval s = v) (hown : w.ownsRow base 23 1 v xs.length (xs.map Un))
    (ad : Addr) (c : Nat) (y : Nat) (hx : a.eval x = .slice (some ad) 1 c) (hy : Rd w (some ad) [Un y]) (hl : xs.length ≤ 1000000) (hbase : base ≤ w.heap.size)
    (h : ∀ A' c' w', w'.ownsRow base 23 1 (.slice A' (xs ++ [y]).length c') (xs ++ [y]).length ((xs ++ [y]).map Un) → w.grownBy w' v.ownBlock → ((Value.slice A' (xs ++ [y]).length c').ownBlock = v.ownBlock ∨ (Value.slice A' (xs ++ [y]).length c').ownBlock = some w.heap.size) → K (a.put o.dst (.slice A' (xs ++ [y]).length c')) w') : if Region.wanted o (yielded ops a.tmps) = true then Oper.wp Tryz.prog o a w K Q else E := by
  have hw : Region.wanted o (yielded ops a.tmps) = true := by simp [Region.wanted, hgd]
  rw [if_pos hw]
  obtain ⟨i0, hi, hz0, hz1, hz2⟩ := info_parts infoU64
  unfold Oper.wp execOp
  obtain ⟨v', w', hrun, r1, r2, _, r4⟩ := run_append_own_at (P := Tryz.prog) w base 49 o.type 23 i0 (.int .u64 0) 1 8 Tryz.underlying49 hi hz0 hz1 hz2 rfl (by decide) v xs.length (xs.map Un) hown ad 1 c [Un y] rfl (rd_cells hy) (un_cell' [y]) (by unfold maxLen; omega) (by omega) hbase
  simp only [ho, resolve, invoke, builtin, Sem.run_bind, Sem.run_pure, Result.andThen_ok, List.map_toArray, List.map_cons, List.map_nil, hs, hx, hrun]
  have r1' : w'.ownsRow base 23 1 v' (xs ++ [y]).length ((xs ++ [y]).map Un) := by rw [List.length_append, List.map_append]; exact r1
  obtain ⟨A', c', hv, -⟩ := own_rdU r1'
  subst hv
  exact h A' c' w' r1' r2 r4
theorem ix_setList {W w4 w5 : World} {xb : Nat} {L : List Ser} {F : Fp} {G : Gh} (hi : IxF W xb L F G) {nm vl : ByteArray} {g : ByteArray → Option (List Nat)} {l : List Nat} {v : Value} (hg : F nm = some g)
    (own4 : w4.ownsRow 0 23 1 v l.length (l.map Un)) (hm4 : Mv (fun k => G.tg k = .row nm vl) W w4) (hb4 : ∀ b, v.ownBlock = some b → W.heap.size ≤ b ∨ G.tg b = .row nm vl)
    (hm5 : MapG KT isSlice w5 (G.mb nm) (KT.put (G.iE nm) vl v)) (ht5 : w4.mapTurned w5 (G.mb nm)) : IxTm W xb G L (setF F nm (some (setVP g vl (some l)))) w5 := by
  obtain ⟨i1, i2, i3⟩ := hi.po.im nm g hg
  have hmv5 := mvTurned ht5
  have hk : ∀ k, k < W.heap.size → k ≠ G.mb nm → G.tg k ≠ .row nm vl → w5.heap[k]? = W.heap[k]? := fun k hk h1 h2 => (hmv5.block k (Nat.lt_of_lt_of_le hk hm4.size) h1).trans (hm4.block k hk h2)
  have own5 : w5.ownsRow 0 23 1 v l.length (l.map Un) := own_moved own4 fun b hb => hmv5.block b (own4.lt b hb).2 fun e => by
    rcases hb4 b hb with h | h
    · have := i1.lt; omega
    · rw [e, i2] at h; cases h
  have hpo := hi.po.setList hi.al hg hm5 own5 hb4 hk
  have hbox : ∀ k, G.tg k ≠ .no → ¬ (G.tg k).isP → w5.heap[k]? = W.heap[k]? := fun k hk1 hk2 => hk k (hi.al k hk1) (fun e => hk2 (by rw [e, i2]; trivial)) (fun e => hk2 (by rw [e]; trivial))
  have htg : ∀ k, G.tg k ≠ .no → ¬ (G.tg k).isP → v.ownBlock ≠ some k := fun k hk1 hk2 e => by
    rcases hb4 k e with h | h
    · have := hi.al k hk1; omega
    · exact hk2 (by rw [h]; trivial)
  refine ⟨{ G with tg := fun k => if v.ownBlock = some k then .row nm vl else G.tg k, iE := fun m => if m = nm then KT.put (G.iE nm) vl v else G.iE m, sl := fun m x => if m = nm ∧ x = vl then v else G.sl m x }, ⟨?_, ?_, ?_, ?_, hi.sl, fun s hs => ?_, ?_, ?_, hi.rl, hpo, hi.wf, fun k hk' => ?_⟩, ?_, fun k hk' => ?_, rfl, rfl⟩
  · exact (hbox _ (by rw [hi.xt]; simp) (by rw [hi.xt]; exact fun h => h)).trans hi.box
  · show (if v.ownBlock = some xb then _ else _) = _
    rw [if_neg (htg _ (by rw [hi.xt]; simp) (by rw [hi.xt]; exact fun h => h))]; exact hi.xt
  · exact hi.sm.moved (hbox _ (by rw [hi.st]; simp) (by rw [hi.st]; exact fun h => h))
  · show (if v.ownBlock = some G.sb then _ else _) = _
    rw [if_neg (htg _ (by rw [hi.st]; simp) (by rw [hi.st]; exact fun h => h))]; exact hi.st
  · obtain ⟨l1, l2⟩ := hi.la s hs
    refine ⟨own_moved l1 fun b hb => hbox b (by rw [l2 b hb]; simp) (by rw [l2 b hb]; exact fun h => h), fun b hb => ?_⟩
    show (if v.ownBlock = some b then _ else _) = _
    rw [if_neg (htg b (by rw [l2 b hb]; simp) (by rw [l2 b hb]; exact fun h => h))]; exact l2 b hb
  · exact hi.rm.moved (hbox _ (by rw [hi.rt]; simp) (by rw [hi.rt]; exact fun h => h))
  · show (if v.ownBlock = some G.rb then _ else _) = _
    rw [if_neg (htg _ (by rw [hi.rt]; simp) (by rw [hi.rt]; exact fun h => h))]; exact hi.rt
  · by_cases e : v.ownBlock = some k
    · exact (own5.lt k e).2
    · have hk2 : G.tg k ≠ .no := by
        have h9 : (if v.ownBlock = some k then Tag.row nm vl else G.tg k) ≠ .no := hk'
        rwa [if_neg e] at h9
      exact Nat.lt_of_lt_of_le (hi.al k hk2) (Nat.le_trans hm4.size hmv5.size)
  · exact (hm4.mono fun i _ h => by rw [h]; simp).trans hmv5 fun i _ e => by rw [e, i2]; simp
  · by_cases e : v.ownBlock = some k
    · rcases hb4 k e with h | h
      · exact .inr h
      · exact .inl (by rw [h]; simp)
    · have h9 : (if v.ownBlock = some k then Tag.row nm vl else G.tg k) ≠ .no := hk'
      rw [if_neg e] at h9
      exact .inl h9
theorem ix_newName {W w1 w2 : World} {xb : Nat} {L : List Ser} {F : Fp} {G : Gh} (hi : IxF W xb L F G) {nm : ByteArray} (hg : F nm = none) {nb : Nat} (hnb : W.heap.size ≤ nb) (hb1 : Below W.heap.size W w1) (h1 : w1.heap[nb]? = some (.map #[] 0))
    (h2 : MapG KT isMap w2 G.pb (KT.put G.pE nm (.map (some nb)))) (ht : w1.mapTurned w2 G.pb) :
    ∃ G1, IxF w2 xb L (setF F nm (some noV)) G1 ∧ Mv (fun k => G.tg k ≠ .no) W w2 ∧ (∀ k, G1.tg k ≠ .no → G.tg k ≠ .no ∨ W.heap.size ≤ k) ∧ G1.mb nm = nb ∧ G1.iE nm = [] := by
  have hmv := mvTurned ht
  have hpl := hi.al G.pb (by rw [hi.po.pt]; simp)
  have hk : ∀ k, k < W.heap.size → k ≠ G.pb → w2.heap[k]? = W.heap[k]? := fun k hk h1 => (hmv.block k (Nat.lt_of_lt_of_le hk hb1.size) h1).trans (hb1.block k hk)
  have hnb2 : w2.heap[nb]? = some (.map #[] 0) := (hmv.block nb (lt_of_block h1) (by omega)).trans h1
  have hpo := hi.po.newName hi.al hg hnb (mapG_new KT isSlice hnb2) h2 hk
  have hlt : ∀ k, G.tg k ≠ .no → k ≠ nb := fun k hk e => by have := hi.al k hk; omega
  have hbox : ∀ k, G.tg k ≠ .no → ¬ (G.tg k).isP → w2.heap[k]? = W.heap[k]? := fun k hk1 hk2 => hk k (hi.al k hk1) (fun e => hk2 (by rw [e, hi.po.pt]; trivial))
  refine ⟨{ G with tg := fun k => if k = nb then .name nm else G.tg k, pE := KT.put G.pE nm (.map (some nb)), iE := fun m => if m = nm then [] else G.iE m, mb := fun m => if m = nm then nb else G.mb m }, ⟨?_, ?_, ?_, ?_, hi.sl, fun s hs => ?_, ?_, ?_, hi.rl, hpo, hi.wf, fun k hk' => ?_⟩, ?_, fun k hk' => ?_, by simp, by simp⟩
  · exact (hbox _ (by rw [hi.xt]; simp) (by rw [hi.xt]; exact fun h => h)).trans hi.box
  · show (if xb = nb then _ else _) = _
    rw [if_neg (hlt _ (by rw [hi.xt]; simp))]; exact hi.xt
  · exact hi.sm.moved (hbox _ (by rw [hi.st]; simp) (by rw [hi.st]; exact fun h => h))
  · show (if G.sb = nb then _ else _) = _
    rw [if_neg (hlt _ (by rw [hi.st]; simp))]; exact hi.st
  · obtain ⟨l1, l2⟩ := hi.la s hs
    refine ⟨own_moved l1 fun b hb => hbox b (by rw [l2 b hb]; simp) (by rw [l2 b hb]; exact fun h => h), fun b hb => ?_⟩
    show (if b = nb then _ else _) = _
    rw [if_neg (hlt b (by rw [l2 b hb]; simp))]; exact l2 b hb
  · exact hi.rm.moved (hbox _ (by rw [hi.rt]; simp) (by rw [hi.rt]; exact fun h => h))
  · show (if G.rb = nb then _ else _) = _
    rw [if_neg (hlt _ (by rw [hi.rt]; simp))]; exact hi.rt
  · by_cases e : k = nb
    · rw [e]; exact lt_of_block hnb2
    · have h9 : (if k = nb then Tag.name nm else G.tg k) ≠ .no := hk'
      rw [if_neg e] at h9
      exact Nat.lt_of_lt_of_le (hi.al k h9) (Nat.le_trans hb1.size hmv.size)
  · exact (Mv.of_below hb1 _).trans hmv fun i _ e => by rw [e, hi.po.pt]; simp
  · by_cases e : k = nb
    · exact .inr (by rw [e]; exact hnb)
    · have h9 : (if k = nb then Tag.name nm else G.tg k) ≠ .no := hk'
      rw [if_neg e] at h9
      exact .inl h9
theorem own_da {w : World} {k : Nat} {o : Obj} {B : Nat} {e : TypeId} {z n : Nat} {v : Value} {xs : List Value} (h : w.ownsRow B e z v n xs) : ((w.drewN k).alloc o).ownsRow B e z v n xs := World.ownsRow.alloc (w := w.drewN k) h o
theorem post_after {W w4 : World} {G : Gh} {nm vl : ByteArray} {vo v4 : Value} {q : Nat} {o : Obj} (hold : ∀ b, vo.ownBlock = some b → G.tg b = .row nm vl) (g4 : ((W.drewN q).alloc o).grownBy w4 vo.ownBlock)
    (at4 : v4.ownBlock = vo.ownBlock ∨ v4.ownBlock = some ((W.drewN q).alloc o).heap.size) : Mv (fun k => G.tg k = .row nm vl) W w4 ∧ ∀ b, v4.ownBlock = some b → W.heap.size ≤ b ∨ G.tg b = .row nm vl := by
  constructor
  · exact (((Mv.refl (fun k => G.tg k = .row nm vl) W).drewN q).alloc o).grown g4 fun k _ hk => hold k hk
  · intro b hb
    rcases at4 with h | h
    · exact .inr (hold b (by rw [← h]; exact hb))
    · rw [h] at hb
      injection hb with hb
      refine .inl ?_
      rw [← hb, World.size_alloc]
      exact Nat.le_succ _
theorem post_fin {w W w5 : World} {xb : Nat} {L : List Ser} {F F' : Fp} {G : Gh} (hb : Below w.heap.size w W) (h : IxTo W xb G L F w5) (e : F = F') : IxTo w xb G L F' w5 := by
  obtain ⟨G2, h2, m2, s2⟩ := h
  refine ⟨G2, e ▸ h2, (Mv.of_below hb _).trans m2 fun _ _ h => h, fun i hi => ?_⟩
  rcases s2 i hi with h | h
  · exact .inl h
  · exact .inr (Nat.le_trans hb.size h)
theorem postF_old {F : Fp} {nm vl : ByteArray} {g : ByteArray → Option (List Nat)} (h : F nm = some g) (n : Nat) : setF F nm (some (setVP g vl (some ((g vl).getD [] ++ [n])))) = postF F (nm, vl) n := by
  unfold postF listF valsF; simp only [h, Option.getD_some]
theorem postF_new {F : Fp} {nm : ByteArray} (h : F nm = none) (vl : ByteArray) (n : Nat) : setF (setF F nm (some noV)) nm (some (setVP noV vl (some ([] ++ [n])))) = postF F (nm, vl) n := by
  unfold postF listF valsF; simp only [h, Option.getD_none, setF_setF]; rfl
section
set_option maxHeartbeats 6400000
set_option maxRecDepth 100000
theorem post_any {w : World} {xb : Nat} {L M : List Ser} {G : Gh} (h : IxF w xb L (restF M) G) (hM : SmallM M) (x : Lb) (n : Nat) (hn : n < 18446744073709551616) (h1 : x.1.size ≤ 1000) (h2 : x.2.size ≤ 1000) :
    Calls Tryz.prog 64 #[.pointer (some ⟨xb, 0, none⟩), .agg #[.string x.1, .string x.2], .int .u64 (n : Nat)] w fun e w' => e = .returned (.tuple #[]) ∧ IxTo w xb G L (postF (restF M) x n) w' := by
  obtain ⟨nm, vl⟩ := x
  simp only at h1 h2
  obtain ⟨hpl, hil⟩ := post_le h.po hM
  obtain ⟨F, hF⟩ : ∃ F, F = restF M := ⟨_, rfl⟩
  rw [← hF] at h hil ⊢
  clear hF hM
  have hb0 : Below w.heap.size w (w.alloc (.cells #[.string nm, .string vl] 80)) := (Below.refl _ w).alloc (Nat.le_refl _) _
  obtain ⟨W, hW⟩ : ∃ W, W = w.alloc (.cells #[.string nm, .string vl] 80) := ⟨_, rfl⟩
  rw [← hW] at hb0
  have hbx : W.heap[w.heap.size]? = some (.cells #[.string nm, .string vl] 80 (0, 0)) := by rw [hW]; exact heap_alloc_new w _
  have hi := h.below hb0
  have hmp := @run_makeMap Tryz.prog
  have e1 := eql_vmap
  have e2 := eql_vmap_nil
  have c2 := cell_blk hi.box 2
  have d0 := cell_blk hbx 0; have d1 := cell_blk hbx 1
  have d2 := fun q o => cell_blk (w := (W.drewN q).alloc o) ((Below.heap_alloc _ _ _ (lt_of_block hbx)).trans hbx) 1
  simp only [List.getElem?_toArray, List.getElem?_cons_succ, List.getElem?_cons_zero] at c2 d0 d1 d2
  have htw : ¬ G.tg w.heap.size = .row nm vl := fun e => absurd (h.al _ (by rw [e]; simp)) (Nat.lt_irrefl _)
  have HTW := Lib.hid htw
  have hbl := lt_of_block hbx
  have HBX := Lib.hid hbx
  clear htw
  cases hg : F nm with
  | none =>
    have hlk := fun q => IxF.look_name (w := W.drewN q) (hi.po.moved fun _ _ => rfl) (s := nm) (by unfold maxLen; omega) false
    rw [hg] at hlk
    simp only [Option.map_none, Option.getD_none, Bool.false_eq_true, if_false] at hlk
    have hstp := fun (w4 : World) (u : Value) (hs : isMap u = true) (hk : w4.heap[G.pb]? = W.heap[G.pb]?) => (hi.po.pm.moved hk).store (t := 73) (e := 96) Tryz.underlying73 (by unfold maxLen; omega) (a := nm) (show nm.size ≤ maxLen by unfold maxLen; omega) hs
    have HSTP := Lib.hid hstp
    have hpbl := hi.po.pm.lt
    have HBOX := Lib.hid hi.box
    have hxl := lt_of_block hi.box
    have HAL := Lib.hid h.al
    have HI := Lib.hid hi
    have HGG := Lib.hid hg
    have hW0 := Lib.hid hW
    have hNB := Lib.hid (show W.heap.size = W.heap.size from rfl)
    clear hstp hi hg hW hil h
    go_enter Tryz.func64, Tryz.ntmps64
    go_wp2_with fail
    rw [← hW0.out]
    go_quiet (fail)
    go_wp2_with fail
    obtain ⟨w1, hw1⟩ : ∃ w1, w1 = (W.drewN nq).alloc (.map #[] 0) := ⟨_, rfl⟩
    rw [← hw1]
    have hb1 : Below W.heap.size W w1.drew := by rw [hw1]; exact ((show Below W.heap.size W (W.drewN nq) from ⟨rfl, rfl, rfl, Nat.le_refl _, fun _ _ => rfl⟩).alloc (Nat.le_refl _) _).drew
    have hwn : w1.drew.heap[W.heap.size]? = some (.map #[] 0) := by rw [hw1]; exact heap_alloc_new (W.drewN nq) _
    obtain ⟨w2, hr2, hm2, ht2⟩ := HSTP.out w1.drew (.map (some W.heap.size)) rfl (hb1.block _ hpbl)
    have HR2 : (Instr.mapUpdate 73 (.map (some G.pb)) (.string nm) (.map (some W.heap.size))).run Tryz.prog w1.drew = .ok () w2 := hr2
    have k2 := cell_blk (w := w1.drew) ((hb1.block _ hxl).trans HBOX.out) 2
    have k0 := cell_blk (w := w1.drew) ((hb1.block _ hbl).trans HBX.out) 0
    simp only [List.getElem?_toArray, List.getElem?_cons_succ, List.getElem?_cons_zero] at k2 k0
    have HB1 := Lib.hid hb1
    have HWN := Lib.hid hwn
    have HM2 := Lib.hid hm2
    have HT2 := Lib.hid ht2
    clear hb1 hwn hm2 ht2 hr2 hw1 c2 d0 d1 d2
    go_region
    obtain ⟨G1, hi1, m1, s1, hmb, hie⟩ := ix_newName HI.out HGG.out (Nat.le_refl _) HB1.out HWN.out HM2.out HT2.out
    have hg1 := setF_same F nm (some noV)
    obtain ⟨F1, hF1⟩ : ∃ F1, F1 = setF F nm (some noV) := ⟨_, rfl⟩
    rw [← hF1] at hi1 hg1
    have hlv := IxF.look_val (w := w2.drew) (hi1.po.moved fun _ _ => rfl) hg1 (v := vl) (by unfold maxLen; omega) false
    have hlv2 := fun o => IxF.look_val (w := (w2.alloc o).drew) (hi1.po.moved fun k hk => Below.heap_alloc _ _ _ (hi1.al k (fun e => by rw [e] at hk; exact hk))) hg1 (v := vl) (by unfold maxLen; omega) false
    rw [hmb] at hlv hlv2
    simp only [noV, Option.map_none, Option.getD_none, Bool.false_eq_true, if_false] at hlv hlv2
    have hbx2 := (m1.block _ hbl (fun e => Nat.lt_irrefl _ (HAL.out _ e))).trans HBX.out
    have d1 := cell_blk hbx2 1
    have d2 := fun o => cell_blk (w := (w2.alloc o).drew) ((Below.heap_alloc _ _ _ (lt_of_block hbx2)).trans hbx2) 1
    simp only [List.getElem?_toArray, List.getElem?_cons_succ, List.getElem?_cons_zero] at d1 d2
    have HTW1 := Lib.hid (show ¬ G1.tg w.heap.size = .row nm vl from fun e => by
      rcases s1 _ (by rw [e]; simp) with h | h
      · exact Nat.lt_irrefl _ (HAL.out _ h)
      · exact Nat.lt_irrefl _ (Nat.lt_of_lt_of_le hbl h))
    have hbl2 := lt_of_block hbx2
    have HBX2 := Lib.hid hbx2
    have HOLD := Lib.hid (show ∀ b, (.slice none 0 0 : Value).ownBlock = some b → G1.tg b = .row nm vl from fun b hb => by cases hb)
    have hst := fun (w4 : World) (u : Value) (hs : isSlice u = true) (hk : w4.heap[G1.mb nm]? = w2.heap[G1.mb nm]?) => (MapG.moved (hi1.po.im nm noV hg1).1 hk).store (t := 96) (e := 49) Tryz.underlying96 (by rw [hie]; unfold maxLen; simp) (a := vl) (show vl.size ≤ maxLen by unfold maxLen; omega) hs
    have hmt := (hi1.po.im nm noV hg1).2.1
    have hmbl := (hi1.po.im nm noV hg1).1.lt
    have HST := Lib.hid hst
    have HMB := Lib.hid hmb
    have HMT := Lib.hid hmt
    have HI1 := Lib.hid hi1
    have HG1 := Lib.hid hg1
    have HM1 := Lib.hid m1
    have HS1 := Lib.hid s1
    have HF1 := Lib.hid hF1
    clear hst hmt hi1 hg1 hbx2 m1 s1 hF1 hmb hie k2 k0 HR2 hlk hmp e1 e2
    go_wp2_with fail
    go_region_law (first
      | (refine step_append_u ?_ (.tmp 30) (.tmp 32) ?_ 0 (.slice none 0 0) [] ?_ (World.ownsRow_nil _ 0 23 1) ⟨w2.heap.size, 0, none⟩ 1 n ?_ (rd_row _ [Un n] 23) (by simp <;> omega) (Nat.zero_le _) ?_ <;> first | rfl | skip
         intro A4 c4 w4 own4 grow4 at4
         obtain ⟨hm4, hb4⟩ := post_after HOLD.out grow4 at4
         obtain ⟨w5, hr5, hm5, ht5⟩ := HST.out w4 (.slice A4 1 c4) rfl (hm4.block _ hmbl (by rw [HMT.out]; simp))
         rw [HMB.out] at hr5
         have HR5 : (Instr.mapUpdate 96 (.map (some W.heap.size)) (.string vl) (.slice A4 1 c4)).run Tryz.prog w4 = .ok () w5 := hr5
         clear hr5
         have d4 := cell_blk (w := w4) ((hm4.block _ hbl2 HTW1.out).trans HBX2.out) 1
         simp only [List.getElem?_toArray, List.getElem?_cons_succ, List.getElem?_cons_zero] at d4
         have HFIN := Lib.hid ((ix_setList HI1.out HG1.out own4 hm4 hb4 hm5 ht5).to)
         clear own4 grow4 at4 hm4 hb4 hm5 ht5)
      | fail)
    all_goals
      go_wp2_with fail
      go_end0
      exact ⟨rfl, post_fin hb0 (IxTo.trans (L := L) (F := F) HM1.out HS1.out HFIN.out) (by rw [HF1.out]; exact postF_new HGG.out vl n)⟩
  | some g =>
    have hlk := fun q => IxF.look_name (w := W.drewN q) (hi.po.moved fun _ _ => rfl) (s := nm) (by unfold maxLen; omega) false
    have hlv := fun q => IxF.look_val (w := W.drewN q) (hi.po.moved fun _ _ => rfl) hg (v := vl) (by unfold maxLen; omega) false
    have hlv2 := fun q o => IxF.look_val (w := (W.drewN q).alloc o) (hi.po.moved fun k hk => Below.heap_alloc _ _ _ (hi.al k (fun e => by rw [e] at hk; exact hk))) hg (v := vl) (by unfold maxLen; omega) false
    rw [hg] at hlk
    simp only [Option.map_some, Option.getD_some, Bool.false_eq_true, if_false] at hlk hlv hlv2
    have hW0 := Lib.hid hW
    have HI := Lib.hid hi
    cases hv : g vl with
    | none =>
      rw [hv] at hlv hlv2
      simp only [Option.map_none, Option.getD_none] at hlv hlv2
      have HOLD := Lib.hid (show ∀ b, (.slice none 0 0 : Value).ownBlock = some b → G.tg b = .row nm vl from fun b hb => by cases hb)
      have hst := fun (w4 : World) (u : Value) (hs : isSlice u = true) (hk : w4.heap[G.mb nm]? = W.heap[G.mb nm]?) => (MapG.moved (hi.po.im nm g hg).1 hk).store (t := 96) (e := 49) Tryz.underlying96 (by have := (hil nm g hg).1; unfold maxLen; omega) (a := vl) (show vl.size ≤ maxLen by unfold maxLen; omega) hs
      have HST := Lib.hid hst
      have HMT := Lib.hid (hi.po.im nm g hg).2.1
      have hmbl := (hi.po.im nm g hg).1.lt
      have HGG := Lib.hid hg
      have HVV := Lib.hid hv
      clear hst hi hg hv hbx hW hil h
      go_enter Tryz.func64, Tryz.ntmps64
      go_wp2_with fail
      rw [← hW0.out]
      go_quiet (fail)
      go_wp2_with fail
      go_region_law (first
        | (refine step_append_u ?_ (.tmp 30) (.tmp 32) ?_ 0 (.slice none 0 0) [] ?_ (own_da (World.ownsRow_nil W 0 23 1)) ⟨W.heap.size, 0, none⟩ 1 n ?_ (rd_row _ [Un n] 23) (by simp <;> omega) (Nat.zero_le _) ?_ <;> first | rfl | skip
           intro A4 c4 w4 own4 grow4 at4
           obtain ⟨hm4, hb4⟩ := post_after HOLD.out grow4 at4
           obtain ⟨w5, hr5, hm5, ht5⟩ := HST.out w4 (.slice A4 1 c4) rfl (hm4.block _ hmbl (by rw [HMT.out]; simp))
           have HR5 : (Instr.mapUpdate 96 (.map (some (G.mb nm))) (.string vl) (.slice A4 1 c4)).run Tryz.prog w4 = .ok () w5 := hr5
           clear hr5
           have d4 := cell_blk (w := w4) ((hm4.block _ hbl HTW.out).trans HBX.out) 1
           simp only [List.getElem?_toArray, List.getElem?_cons_succ, List.getElem?_cons_zero] at d4
           have HFIN := Lib.hid ((ix_setList HI.out HGG.out own4 hm4 hb4 hm5 ht5).to)
           clear own4 grow4 at4 hm4 hb4 hm5 ht5)
        | fail)
      all_goals
        go_wp2_with fail
        go_end0
        exact ⟨rfl, post_fin hb0 HFIN.out (by have := postF_old (vl := vl) HGG.out n; rw [HVV.out] at this; exact this)⟩
    | some l =>
      rw [hv] at hlv hlv2
      simp only [Option.map_some, Option.getD_some] at hlv hlv2
      obtain ⟨ow, otg⟩ := hi.po.ow nm g vl l hg hv
      obtain ⟨AV, cV, hsl, hrd, -⟩ := own_rdU ow
      rw [hsl] at hlv hlv2 ow otg
      have HOW := Lib.hid ow
      have hsz := (hil nm g hg).2 vl l hv
      clear ow hrd
      have HOLD := Lib.hid (show ∀ b, (.slice AV l.length cV : Value).ownBlock = some b → G.tg b = .row nm vl from otg)
      have hst := fun (w4 : World) (u : Value) (hs : isSlice u = true) (hk : w4.heap[G.mb nm]? = W.heap[G.mb nm]?) => (MapG.moved (hi.po.im nm g hg).1 hk).store (t := 96) (e := 49) Tryz.underlying96 (by have := (hil nm g hg).1; unfold maxLen; omega) (a := vl) (show vl.size ≤ maxLen by unfold maxLen; omega) hs
      have HST := Lib.hid hst
      have HMT := Lib.hid (hi.po.im nm g hg).2.1
      have hmbl := (hi.po.im nm g hg).1.lt
      have HGG := Lib.hid hg
      have HVV := Lib.hid hv
      clear hst hi hg hv hbx hW hil h
      go_enter Tryz.func64, Tryz.ntmps64
      go_wp2_with fail
      rw [← hW0.out]
      go_quiet (fail)
      go_wp2_with fail
      go_region_law (first
        | (refine step_append_u ?_ (.tmp 30) (.tmp 32) ?_ 0 (.slice AV l.length cV) l ?_ (own_da HOW.out) ⟨W.heap.size, 0, none⟩ 1 n ?_ (rd_row _ [Un n] 23) (Nat.le_trans hsz (by decide)) (Nat.zero_le _) ?_ <;> first | rfl | skip
           intro A4 c4 w4 own4 grow4 at4
           obtain ⟨hm4, hb4⟩ := post_after HOLD.out grow4 at4
           obtain ⟨w5, hr5, hm5, ht5⟩ := HST.out w4 (.slice A4 (l ++ [n]).length c4) rfl (hm4.block _ hmbl (by rw [HMT.out]; simp))
           rw [List.length_append, List.length_singleton] at hr5
           have HR5 : (Instr.mapUpdate 96 (.map (some (G.mb nm))) (.string vl) (.slice A4 (l.length + 1) c4)).run Tryz.prog w4 = .ok () w5 := hr5
           clear hr5
           have d4 := cell_blk (w := w4) ((hm4.block _ hbl HTW.out).trans HBX.out) 1
           simp only [List.getElem?_toArray, List.getElem?_cons_succ, List.getElem?_cons_zero] at d4
           have HFIN := Lib.hid ((ix_setList HI.out HGG.out own4 hm4 hb4 hm5 ht5).to)
           clear own4 grow4 at4 hm4 hb4 hm5 ht5)
        | fail)
      all_goals
        go_wp2_with fail
        go_end0
        exact ⟨rfl, post_fin hb0 HFIN.out (by have := postF_old (vl := vl) HGG.out n; rw [HVV.out] at this; exact this)⟩
end
end
end Go.Proofs.YtjgappbomohlcaaGreatDoor
