/-
  Labels in memory: what several walks share; what is wrong with a label.
-/
import Derived.Test.YtgogpngobdafaaaDoorLr
import Derived.Test.YtgogpngobdafaaaDoorNa
import Derived.Test.YtgogpngobdafaaaDoorVd
namespace Go.Proofs.YtgogpngobdafaaaDoor
set_option linter.unusedVariables false
set_option linter.unusedSimpArgs false
open Go.RowKit
section
set_option maxHeartbeats 1600000
set_option maxRecDepth 100000
/-- Not too many labels, nor too long ones. -/
def Few (l : List Lb) : Prop := l.length ≤ 6000 ∧ ∀ x ∈ l, x.1.size ≤ 6000 ∧ x.2.size ≤ 6000
theorem fault_any (x : Lb) (w : World) (hT : Tabs w) (h1 : x.1.size ≤ 1000000) (h2 : x.2.size ≤ 1000000) : Calls Tryd.prog 101 #[.agg #[.string x.1, .string x.2]] w fun e w' => e = .returned (.int .i64 (faultP x : Nat)) ∧ Below w.heap.size w w' := by
  obtain ⟨x1, x2⟩ := x
  simp only at h1 h2
  have hn := named_any x1 (w.alloc (.cells #[.string x1, .string x2] 68))
  have hv := fun W h => valued_any x2 W h h2
  have hbw : RowKit.Below w.heap.size w (w.alloc (.cells #[.string x1, .string x2] 68)) := (RowKit.Below.refl _ w).alloc (Nat.le_refl _) _
  unfold faultP
  simp only
  generalize namedP (bl x1) = N at hn ⊢
  generalize valuedP (bl x2) = V at hv ⊢
  have HN := Lib.hid hn; clear hn
  have HV := Lib.hid hv; clear hv
  have HT := Lib.hid hT; clear hT
  have HBW := Lib.hid hbw; clear hbw
  cases N with
  | false =>
    go_enter Tryd.func101, Tryd.ntmps101
    go_wp2_with fail
    refine HN.out.mono ?_
    rintro e w1 ⟨rfl, hb⟩
    have HB := Lib.hid hb; clear hb
    go_wp2
    go_ret
    exact ⟨rfl, HBW.out.trans (HB.out.mono HBW.out.size)⟩
  | true =>
    go_enter Tryd.func101, Tryd.ntmps101
    go_wp2_with fail
    refine HN.out.mono ?_
    rintro e w1 ⟨rfl, hb⟩
    have hbx := (hb.block w.heap.size (by simp)).trans (heap_alloc_new w _)
    have c1 := cell_blk hbx 1
    simp only [List.getElem?_toArray, List.getElem?_cons_zero, List.getElem?_cons_succ] at c1
    have HB := Lib.hid (HBW.out.trans (hb.mono HBW.out.size)); clear hb hbx
    have hv := HV.out w1 (HT.out.below HB.out)
    have HV1 := Lib.hid hv; clear hv
    cases V with
    | false =>
      go_wp2_with fail
      refine HV1.out.mono ?_
      rintro e w2 ⟨rfl, hb⟩
      have HB2 := Lib.hid hb; clear hb
      go_wp2
      go_ret
      exact ⟨rfl, HB.out.trans (HB2.out.mono HB.out.size)⟩
    | true =>
      go_wp2_with fail
      refine HV1.out.mono ?_
      rintro e w2 ⟨rfl, hb⟩
      have HB2 := Lib.hid hb; clear hb
      go_wp2
      go_ret
      exact ⟨rfl, HB.out.trans (HB2.out.mono HB.out.size)⟩
theorem own_parts {w : World} {B g cap : Nat} {l : List Lb} (h : w.ownsRow B 68 2 (.slice (some ⟨g, 0, none⟩) l.length cap) l.length (lcells l)) :
    B ≤ g ∧ l.length ≤ cap ∧ cap ≤ maxLen ∧ ∃ tl : List Value, (lcells l ++ tl).length = cap * 2 ∧ w.heap[g]? = some (.cells (lcells l ++ tl).toArray 68 (0, 0)) := by
  rcases h.2 with ⟨h1, _⟩ | ⟨g', cap', cur, e, hB, hg, hnc, hcm, hcs, htk⟩
  · cases h1
  · injection e with e1 e2 e3
    injection e1 with e1
    injection e1 with e1
    subst e1; subst e3
    refine ⟨hB, hnc, hcm, cur.toList.drop (l.length * 2), ?_, ?_⟩
    · rw [← htk, List.take_append_drop, Array.length_toList, hcs]
    · rw [← htk, List.take_append_drop]; exact hg
theorem own_made {w : World} {B g cap n : Nat} {l : List Lb} {tl : List Value} (hB : B ≤ g) (hn : n = l.length) (h1 : l.length ≤ cap) (h2 : cap ≤ maxLen) (h3 : (lcells l ++ tl).length = cap * 2) (hg : w.heap[g]? = some (.cells (lcells l ++ tl).toArray 68 (0, 0))) :
    w.ownsRow B 68 2 (.slice (some ⟨g, 0, none⟩) n cap) n (lcells l) := by
  subst hn
  refine ⟨lcells_len l, .inr ⟨g, cap, _, rfl, hB, hg, h1, h2, by simpa using h3, ?_⟩⟩
  rw [List.toList_toArray, List.take_append_of_le_length (by rw [lcells_len]; exact Nat.le_refl _), List.take_of_length_le (by rw [lcells_len]; exact Nat.le_refl _)]
theorem own_rd2 {w : World} {g : Nat} {l : List Lb} {tl : List Value} (hg : w.heap[g]? = some (.cells (lcells l ++ tl).toArray 68 (0, 0))) : Rd w (some ⟨g, 0, none⟩) (lcells l) := by
  intro k v hv
  refine ⟨g, 0, rfl, ?_⟩
  rw [Nat.zero_add, cell_blk hg k, List.getElem?_toArray, List.getElem?_append_left (List.getElem?_eq_some_iff.1 hv).1, hv]
theorem made_block {w : World} {B g n : Nat} {xs : List Value} (h : w.ownsRow B 68 2 (.slice (some ⟨g, 0, none⟩) n n) n xs) : ∃ cur, w.heap[g]? = some (.cells cur 68 (0, 0)) ∧ cur.size = n * 2 := by
  rcases h.2 with ⟨h1, _⟩ | ⟨g', cap', cur, e, hB, hg, hnc, hcm, hcs, htk⟩
  · cases h1
  · injection e with e1 e2 e3
    injection e1 with e1
    injection e1 with e1
    subst e1; subst e3
    exact ⟨cur, hg, hcs⟩
theorem own_whole {w : World} {B g : Nat} {l : List Lb} (hB : B ≤ g) (hl : l.length ≤ maxLen) (hg : w.heap[g]? = some (.cells (lcells l).toArray 68 (0, 0))) : w.ownsRow B 68 2 (.slice (some ⟨g, 0, none⟩) l.length l.length) l.length (lcells l) :=
  own_made (tl := []) hB rfl (Nat.le_refl _) hl (by simp [lcells_len]) (by simpa using hg)
theorem own_rdL {w : World} {B : Nat} {v : Value} {l : List Lb} (h : w.ownsRow B 68 2 v l.length (lcells l)) : ∃ A c, v = .slice A l.length c ∧ Rd w A (lcells l) := by
  rcases h.2 with ⟨rfl, h0⟩ | ⟨g, cap, cur, rfl, hB, hg, hnc, hcm, hcs, htk⟩
  · have : l = [] := List.eq_nil_of_length_eq_zero h0
    subst this
    exact ⟨none, 0, rfl, Rd.nil _ _⟩
  · obtain ⟨_, _, _, tl, _, hg'⟩ := own_parts h
    exact ⟨some ⟨g, 0, none⟩, cap, rfl, own_rd2 hg'⟩
theorem own_belowL {w w' : World} {B : Nat} {v : Value} {n : Nat} {xs : List Value} (h : w.ownsRow B 68 2 v n xs) (hb : RowKit.Below w.heap.size w w') : w'.ownsRow B 68 2 v n xs :=
  own_moved h (fun g hg => hb.block g (h.lt g hg).2)
theorem results_lb3 {fn : Func} {p u v : Tmp} (h : fn.results = #[.cell p 68, .tmp u, .tmp v]) (tmps : Array Value) (w : World) (g : Nat) (cs : Array Value)
    (hp : tmps.getD p undef = .pointer (some ⟨g, 0, none⟩)) (hg : w.heap[g]? = some (.cells cs 68 (0, 0))) (hc : cs.size = 2) :
    (results fn tmps).run Tryd.prog w = .ok (.tuple #[.agg cs, tmps.getD u undef, tmps.getD v undef]) w := by
  have hp' : tmps[p]?.getD undef = .pointer (some ⟨g, 0, none⟩) := by simpa using hp
  simp [results, h, hp', asAddr, run_loadVar_row w g 68 68 cs (0, 0) _ hg Tryd.underlying68 rfl (by rw [hc]; kernel_rfl)]
theorem post_lb3 {fn : Func} {R : Ending → World → Prop} {a : Act} {w : World} {p u v : Tmp} (h : fn.results = #[.cell p 68, .tmp u, .tmp v]) (g : Nat) (cs : Array Value)
    (hp : a.tmps.getD p undef = .pointer (some ⟨g, 0, none⟩)) (hg : w.heap[g]? = some (.cells cs 68 (0, 0))) (hc : cs.size = 2) (hdf : a.defers = [])
    (hR : R (.returned (.tuple #[.agg cs, a.tmps.getD u undef, a.tmps.getD v undef])) w) : bodyPost Tryd.prog fn R .ret a w :=
  bodyPost_ret (results_lb3 h a.tmps w g cs hp hg hc) hdf hR
/-- Two stores into a box of the call's own. -/
theorem box_set {w w1 : World} {x y x' y' : Value} (hb : RowKit.Below (w.alloc (.cells #[x, y] 68)).heap.size (w.alloc (.cells #[x, y] 68)) w1) :
    ((w1.setCell ⟨w.heap.size, 0, none⟩ x').setCell ⟨w.heap.size, 1, none⟩ y').heap[w.heap.size]? = some (.cells #[x', y'] 68 (0, 0)) ∧
      RowKit.Below w.heap.size w ((w1.setCell ⟨w.heap.size, 0, none⟩ x').setCell ⟨w.heap.size, 1, none⟩ y') := by
  have h := (hb.block w.heap.size (by simp)).trans (heap_alloc_new w _)
  refine ⟨set_blk (set_blk h 0 x') 1 y', ?_⟩
  have b0 : RowKit.Below w.heap.size w w1 := ((RowKit.Below.refl _ w).alloc (Nat.le_refl _) _).trans (hb.mono (by simp))
  exact (b0.setCell (p := ⟨w.heap.size, 0, none⟩) (Nat.le_refl _) x').setCell (p := ⟨w.heap.size, 1, none⟩) (Nat.le_refl _) y'
theorem box_facts {w w1 : World} {x y : Value} (hb : RowKit.Below (w.alloc (.cells #[x, y] 68)).heap.size (w.alloc (.cells #[x, y] 68)) w1) :
    w1.cell? ⟨w.heap.size, 0, none⟩ = some x ∧ w1.cell? ⟨w.heap.size, 1, none⟩ = some y ∧ w1.frozen? ⟨w.heap.size, 0, none⟩ = false ∧ w1.frozen? ⟨w.heap.size, 1, none⟩ = false := by
  have h := (hb.block w.heap.size (by simp)).trans (heap_alloc_new w _)
  have h0 := cell_blk h 0
  have h1 := cell_blk h 1
  simp only [List.getElem?_toArray, List.getElem?_cons_zero, List.getElem?_cons_succ] at h0 h1
  exact ⟨h0, h1, free_blk h 0, free_blk h 1⟩
def lenV : Value → Nat
  | .slice _ n _ => n
  | _ => 0
theorem run_bound1 {P : Program} (w : World) (k cap : Nat) (c : BoundsCode) (h : k ≤ cap) : (Instr.sliceBound (.int .i64 (k : Nat)) cap c).run P w = .ok k w := by
  simp [Instr.sliceBound, asIntOf, h]
/-- x[1:] of labels. -/
theorem run_cut1 {P : Program} (w : World) (ty e : TypeId) (b off n c : Nat) (hu : P.underlying ty = some (.slice e)) (hs : (P.info? e).map (·.size) = some 2) (hc : n ≤ c) :
    ∃ A', (Instr.sliceAt ty (.slice (some ⟨b, off, none⟩) (n + 1) (c + 1)) (some (.int .i64 1)) none none).run P w = .ok (.slice A' n c) w ∧ ∀ (W : World) (l : List Lb), l.length ≤ c + 1 → Rd W (some ⟨b, off, none⟩) (lcells l) → Rd W A' (lcells (l.drop 1)) := by
  refine ⟨if c + 1 = 1 then some ⟨b, off, none⟩ else some ⟨b, off + 2, none⟩, ?_, fun W l hl hr => ?_⟩
  · cases hq : P.info? e with
    | none => simp [hq] at hs
    | some i =>
      have hsz : i.size = 2 := by simpa [hq] using hs
      have b1 := fun cd => run_bound1 (P := P) w 1 (n + 1) cd (by omega)
      have b2 := fun cd => run_bound1 (P := P) w (n + 1) (c + 1) cd (by omega)
      have b1' : ∀ cd, (Instr.sliceBound (.int .i64 1) (n + 1) cd).run P w = .ok 1 w := b1
      have b3 : ∀ cd, (Instr.sliceBound (.int .i64 1) (c + 1) cd).run P w = .ok 1 w := fun cd => run_bound1 (P := P) w 1 (c + 1) cd (by omega)
      simp [Instr.sliceAt, Instr.slice, Instr.sliceBounds, run_underlying hu, sizeOf, typeInfo, hq, hsz, b1', b2, b3, hc, Addr.add]
  · split
    · rename_i e1
      rw [List.drop_eq_nil_of_le (by omega)]
      exact Rd.nil _ _
    · exact rd_drop2 (k := 1) hr b off rfl
theorem wpList_cut1 {P : Program} {w : World} {ops : Array Oper} {rest : List Oper} {o : Oper} {a : Act} {Q : Exit → Act → World → Prop} (hgd : o.guard = none) (ty : TypeId) (x lo : Operand)
    (ho : o.op = .slice ty x (some lo) none none) (e : TypeId) (hu : P.underlying ty = some (.slice e)) (hs : (P.info? e).map (·.size) = some 2) (b off n c : Nat) (hx : a.eval x = .slice (some ⟨b, off, none⟩) (n + 1) (c + 1)) (hlo : a.eval lo = .int .i64 1) (hc : n ≤ c)
    (hK : ∀ A', (∀ (W : World) (l : List Lb), l.length ≤ c + 1 → Rd W (some ⟨b, off, none⟩) (lcells l) → Rd W A' (lcells (l.drop 1))) → wpList P ops Q rest (a.put o.dst (.slice A' n c)) w) : wpList P ops Q (o :: rest) a w := by
  obtain ⟨A', hr, hv⟩ := run_cut1 (P := P) w ty e b off n c hu hs hc
  refine wpList_plain hgd fun K hK' => ?_
  unfold Oper.wp
  simp only [execOp, ho, hx, Option.map_none, Option.map_some, hlo, Sem.run_bind, Sem.run_pure, hr, Result.andThen_ok]
  exact hK' _ _ (hK A' hv)
/-- append of labels that came from anywhere onto a row of the call's own. -/
theorem wpList_append_lb {w : World} {ops : Array Oper} {rest : List Oper} {o : Oper} {a : Act} {Q : Exit → Act → World → Prop} (hgd : o.guard = none) (s x : Operand)
    (ho : o.op = .call { callee := .builtin .append, args := #[s, x], argTypes := #[24, 24] }) (hty : o.type = 24)
    (base : Nat) (v : Value) (xs : List Lb) (hs : a.eval s = v) (hown : w.ownsRow base 68 2 v xs.length (lcells xs))
    (A : Option Addr) (c : Nat) (ys : List Lb) (hx : a.eval x = .slice A ys.length c) (hy : Rd w A (lcells ys))
    (hl : xs.length + ys.length ≤ 1000000) (hbase : base ≤ w.heap.size)
    (h : ∀ v' w', w'.ownsRow base 68 2 v' (xs ++ ys).length (lcells (xs ++ ys)) → w.grownBy w' v.ownBlock → wpList Tryd.prog ops Q rest (a.put o.dst v') w') : wpList Tryd.prog ops Q (o :: rest) a w := by
  obtain ⟨i0, hi, hz0, hz1, hz2⟩ := info_parts infoLb
  rw [List.length_append, lcells_append] at h
  cases A with
  | some ad =>
    exact wpList_append_own w hgd s x 24 ho base 68 i0 (.agg #[.string ⟨#[]⟩, .string ⟨#[]⟩]) 2 32 Tryd.underlying24 hi hz0 hz1 hz2 rfl (by decide) v xs.length (lcells xs) hs hown ad ys.length c (lcells ys) hx (lcells_len ys) (rd_cells hy) (lcells_one' ys) (by unfold maxLen; omega) (by omega) hbase (fun v' w' a b _ => h v' w' a b)
  | none =>
    obtain rfl := lb_nil hy
    have hrun := run_append_none (P := Tryd.prog) base 24 o.type 68 i0 2 Tryd.underlying24 hi v xs.length c (lcells xs) hown
    refine wpList_plain hgd fun K hK => ?_
    unfold Oper.wp execOp
    simp only [ho, resolve, invoke, builtin, Sem.run_bind, Sem.run_pure, Result.andThen_ok, List.map_toArray, List.map_cons, List.map_nil, hs, hx, List.length_nil, hrun]
    exact hK _ _ (h v w (by simpa [lcells] using hown) ⟨rfl, rfl, rfl, Nat.le_refl _, fun _ _ _ => rfl⟩)
end
end Go.Proofs.YtgogpngobdafaaaDoor
