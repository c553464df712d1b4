/-
  RecordNear (P13.5): for all points, Booleans and numbers: points of one series, each at the same time as the one ahead, or one later, of one write, take no more than eleven bytes each. The condition is the library's two tables': they hold what their initialisers lay, which the card ties to the program's text.
-/
import Derived.Maps.AppendAt
import Derived.Test.YtgogpngobdafaaaDoorJl
namespace Go.Proofs.YtgogpngobdafaaaDoor
set_option linter.unusedVariables false
set_option linter.unusedSimpArgs false
open Go.ChangeShapes Go.WideShapes Go.ChangeAt Go.RowKit
def UvJ (n : Nat) : Value := .int .u64 (n : Int)
set_option maxRecDepth 100000 in
theorem open_u64s {H : Type} {enc : TypeId × Value → H} {W : World} {r : Reach} {b0 : Nat} {v : Value} {d : DataW H} {ps : List MemPlace}
    (hval : Value.okWide Tryd.prog W r b0 49 v) (h : DataW.Trod enc Tryd.prog W 0 (fun _ => true) true 49 v d ps) :
    ∃ (A : Option Addr) (cap : Nat) (xs : List Nat), v = .slice A xs.length cap ∧ (xs.length ≤ cap ∧ cap ≤ maxLen) ∧ Rd W A (xs.map UvJ) ∧ (∀ x ∈ xs, x < 18446744073709551616) := by
  obtain ⟨A, cap, zs, rfl, hm, hr, hw⟩ := open_rd Tryd.underlying49 Tryd.underlying43 (by kernel_rfl) hval h
  refine ⟨A, cap, zs.map Int.toNat, by simp, by simpa using hm, ?_, ?_⟩
  · have e : (zs.map Int.toNat).map UvJ = zs.map (Value.int .u64) := by
      rw [List.map_map]
      refine List.map_congr_left fun z hz => ?_
      have hb := bounds_u64J (hw z hz)
      simp only [Function.comp, UvJ]
      congr 1
      omega
    rw [e]
    exact hr
  · intro x hx
    obtain ⟨z, hz, rfl⟩ := List.mem_map.1 hx
    have hb := bounds_u64J (hw z hz)
    omega
theorem own_blockJ {A : Option Addr} {n c g : Nat} (h : (Value.slice A n c).ownBlock = some g) : A.map (·.block) = some g := by
  cases A with
  | none => simp [Value.ownBlock] at h
  | some a => simpa [Value.ownBlock] using h
/-- append of a point of the call's own; where the row lies then. -/
theorem wpList_append_one {w : World} {ops : Array Oper} {rest : List Oper} {o : Oper} {a : Act} {Q : Exit → Act → World → Prop} (hgd : o.guard = none) (s x : Operand)
    (ho : o.op = .call { callee := .builtin .append, args := #[s, x], argTypes := #[25, 25] })
    (base : Nat) (v : Value) (xs : List En) (m : Nat) (hm : xs.length = m) (hs : a.eval s = v) (hown : w.ownsRow base 47 4 v m (ecells xs))
    (ad : Addr) (y : En) (hx : a.eval x = .slice (some ad) 1 1) (hy : Rd w (some ad) (ecells [y]))
    (hl : xs.length ≤ 1000000) (hbase : base ≤ w.heap.size)
    (h : ∀ A' c' w', w'.ownsRow base 47 4 (.slice A' (m + 1) c') (m + 1) (ecells (xs ++ [y])) → w.grownBy w' v.ownBlock → ((Value.slice A' (m + 1) c').ownBlock = v.ownBlock ∨ (Value.slice A' (m + 1) c').ownBlock = some w.heap.size) → wpList Tryd.prog ops Q rest (a.put o.dst (.slice A' (m + 1) c')) w') : wpList Tryd.prog ops Q (o :: rest) a w := by
  subst hm
  obtain ⟨i0, hi, hz0, hz1, hz2⟩ := info_parts infoEn
  refine wpList_append_own_at w hgd s x 25 ho base 47 i0 (.agg #[.int .u32 0, .int .i64 0, .int .u64 0, .int .u64 0]) 4 32 Tryd.underlying25 hi hz0 hz1 hz2 rfl (by decide) v xs.length (ecells xs) hs hown ad 1 1 (ecells [y]) hx (ecells_len [y]) (rd_cells hy) (ecells_one' [y]) (by unfold maxLen; omega) (by omega) hbase ?_
  intro v' w' own grow _ hat
  have e1 : xs.length + 1 = (xs ++ [y]).length := by simp
  rw [← ecells_append] at own
  have own2 := own
  rw [e1] at own2
  obtain ⟨A', c', e', -⟩ := own_rd_en own2
  rw [← e1] at e'
  subst e'
  exact h A' c' w' own grow hat
theorem kept4 {w w' : World} {base n : Nat} {v : Value} {xs : List Value} {e : TypeId} (h : w.ownsRow base e 4 v n xs) (g : w.grownBy w' v.ownBlock) {b : Nat} {cs : Array Value} {t : TypeId}
    (hb : w.heap[b]? = some (.cells cs t (0, 0))) (ht : e ≠ t) : w'.heap[b]? = some (.cells cs t (0, 0)) :=
  (g.block b (blk_lt hb) (Ne.symm (own_blk h hb ht))).trans hb
theorem own_rdE {w : World} {B n c : Nat} {A : Option Addr} {l : List En} (h : w.ownsRow B 47 4 (.slice A n c) n (ecells l)) (hn : l.length = n) : Rd w A (ecells l) := by
  subst hn
  obtain ⟨A', c', e, hr, -⟩ := own_rd_en h
  injection e with e _ _
  subst e
  exact hr
theorem own_single (w : World) (x : En) : (w.alloc (.cells (boxEn x) 47)).ownsRow w.heap.size 47 4 (.slice (some ⟨w.heap.size, 0, none⟩) 1 1) 1 (ecells [x]) :=
  ⟨by rw [ecells_len]; rfl, .inr ⟨w.heap.size, 1, boxEn x, rfl, Nat.le_refl _, heap_alloc_new w _, Nat.le_refl _, by decide, rfl, by rw [ecells_one]; rfl⟩⟩
/-- Points near to one another: the last one, and how many bytes all take. -/
structure NearP (f : En) (l : List En) (e : En) (k : Nat) : Prop where
  last : lastE en0 l = e
  len : l.length = k + 1
  r : e.1 = f.1
  s : e.2.2.2 = f.2.2.2
  t0 : f.2.1 ≤ e.2.1
  t1 : e.2.1 ≤ f.2.1 + k
  v : e.2.2.1 < 18446744073709551616
  size : (entsB en0 l).length = (entB en0 f).length + 11 * k
  good : ∀ x ∈ l, EnGood x
theorem pu_one {n : Nat} (h : n < 128) : (pu n).length = 1 := by rw [pu_last h]; rfl
theorem near_len {p x : En} (h1 : x.1 = p.1) (h2 : x.2.2.2 = p.2.2.2) (h3 : p.2.1 ≤ x.2.1) (h4 : x.2.1 ≤ p.2.1 + 1) : (entB p x).length = 11 := by
  have e1 : sd (x.1 : Int) (p.1 : Int) = 0 := by rw [h1]; unfold sd; omega
  have e2 : sd (x.2.2.2 : Int) (p.2.2.2 : Int) = 0 := by rw [h2]; unfold sd; omega
  have e3 : sd x.2.1 p.2.1 = 0 ∨ sd x.2.1 p.2.1 = 1 := by unfold sd; omega
  have z0 : zigN 0 = 0 := by decide
  have z1 : zigN 1 = 2 := by decide
  unfold entB
  rw [e1, e2]
  simp only [List.length_append, bigN_len, z0]
  rw [pu_one (n := 0) (by decide)]
  rcases e3 with e | e <;> rw [e]
  · rw [z0, pu_one (n := 0) (by decide)]
  · rw [z1, pu_one (n := 2) (by decide)]
theorem ents_one (p f : En) : entsB p [f] = entB p f := by
  rw [entsB, entsB]
  generalize entB p f = b
  exact List.append_nil b
theorem near_one {f : En} (hf : EnGood f) : NearP f [f] f 0 :=
  ⟨rfl, rfl, rfl, rfl, Int.le_refl _, by omega, hf.1.2.2.2.1, by rw [ents_one]; generalize (entB en0 f).length = n; omega, fun x hx => by rw [List.mem_singleton] at hx; rw [hx]; exact hf⟩
theorem NearP.step {f e x : En} {l : List En} {k : Nat} (h : NearP f l e k) (hf : EnGood f) (hft : f.2.1 ≤ 4611686018427387904) (hk : k ≤ 1000) (h1 : x.1 = e.1) (h2 : x.2.2.2 = e.2.2.2) (h3 : e.2.1 ≤ x.2.1) (h4 : x.2.1 ≤ e.2.1 + 1) (h5 : x.2.2.1 < 18446744073709551616) : NearP f (l ++ [x]) x (k + 1) := by
  have a1 := h.r; have a2 := h.s; have a3 := h.t0; have a4 := h.t1
  obtain ⟨⟨f1, f2, f3, f4, f5⟩, f6, f7⟩ := hf
  refine ⟨lastE_snoc _ _ _, by rw [List.length_append, h.len]; rfl, by rw [h1, a1], by rw [h2, a2], by omega, by omega, h5, ?_, ?_⟩
  · rw [entsB_snoc, List.length_append, h.last, h.size, near_len h1 h2 h3 h4]; omega
  · intro y hy
    rcases List.mem_append.1 hy with hy | hy
    · exact h.good y hy
    · rw [List.mem_singleton] at hy
      subst hy
      exact ⟨⟨by omega, by omega, by omega, h5, by omega⟩, by omega, by omega⟩
theorem near_check {f e : En} {l : List En} {k : Nat} (h : NearP f l e k) (hk : k ≤ 200) : checkR (2, 0, [], l) = 0 ∧ RpOk (2, 0, [], l) := by
  have hl := h.len
  refine ⟨?_, by show 0 < 4294967296; decide, fun x hx => (h.good x hx).1⟩
  have hany : l.any (fun e => decide (e.1 = 0) || decide (e.2.2.2 = 0)) = false := by
    rw [List.any_eq_false]
    intro y hy
    have := h.good y hy
    simp [this.2.1, this.2.2]
  unfold checkR
  rw [if_neg (show ¬ (2 : Int) = 1 by decide), if_pos rfl, if_neg (by simp), if_neg (by simp only; omega), if_neg (by simp only; omega), if_neg (by simp only; rw [hany]; decide)]
theorem near_size {f e : En} {l : List En} {k : Nat} (h : NearP f l e k) (hk : k ≤ 200) : (putR (2, 0, [], l)).2.length = 1 + (if k + 1 < 128 then 1 else 2) + (entB en0 f).length + 11 * k := by
  unfold putR
  rw [if_neg (by have := (near_check h hk).1; omega)]
  unfold rowR
  rw [if_neg (show ¬ (2 : Int) = 1 by decide)]
  simp only [List.length_cons, List.length_append]
  rw [h.size, h.len]
  by_cases g : k + 1 < 128
  · rw [if_pos g, pu_one g]; omega
  · rw [if_neg g, pu_more (by omega), List.length_cons, pu_one (by omega)]; omega
section
set_option maxHeartbeats 3200000
set_option maxRecDepth 100000
theorem rnear_walk (f : En) (L : Option Addr) (cl : Nat) (bs : List Bool) (V : Option Addr) (cv : Nat) (vs : List Nat) (w : World) (hT : Tabs w) (hf : EnOk f) (hL : Rd w L (bs.map Value.bool)) (hV : Rd w V (vs.map UvJ)) (hvb : ∀ n ∈ vs, n < 18446744073709551616) :
    Calls Tryd.prog 7 #[aggEn f, .slice L bs.length cl, .slice V vs.length cv] w fun e w' => e = .returned (.bool true) ∧ Below w.heap.size w w' := by
  have hlive := fun W (hb : Below w.heap.size w W) => liveJ_any W (hT.below hb)
  obtain ⟨f1, f2, f3, f4⟩ := f
  obtain ⟨o1, o2, o3, o4, o5⟩ := hf
  unfold aggEn boxEn
  simp only at o1 o2 o3 o4 o5 ⊢
  obtain ⟨w0, hw0⟩ : ∃ w0, w0 = w.alloc (.cells #[.int .u32 (f1 : Nat), .int .i64 f2, .int .u64 (f3 : Nat), .int .u64 (f4 : Nat)] 47) := ⟨_, rfl⟩
  have hb := (RowKit.Below.refl w.heap.size w).alloc (Nat.le_refl _) (.cells #[.int .u32 (f1 : Nat), .int .i64 f2, .int .u64 (f3 : Nat), .int .u64 (f4 : Nat)] 47)
  have hbx := heap_alloc_new w (.cells #[.int .u32 (f1 : Nat), .int .i64 f2, .int .u64 (f3 : Nat), .int .u64 (f4 : Nat)] 47)
  rw [← hw0] at hb hbx
  have HL := Lib.hid hlive; have HB := Lib.hid hb; have HBX := Lib.hid hbx; have HW0 := Lib.hid hw0; have HLR := Lib.hid hL; have HVR := Lib.hid hV; have HT := Lib.hid hT; have HVB := Lib.hid hvb
  clear hlive hb hbx hw0 hL hV hT hvb
  go_enter Tryd.func7, Tryd.ntmps7
  go_wp2_with fail
  rw [← HW0.out]
  refine (HL.out _ HB.out).mono ?_
  rintro e w1 ⟨rfl, hb⟩
  have hbx := (hb.block _ (blk_lt HBX.out)).trans HBX.out
  have b0 := cell_blk hbx 0; have b1 := cell_blk hbx 1; have b2 := cell_blk hbx 2; have b3 := cell_blk hbx 3
  simp only [List.getElem?_toArray, List.getElem?_cons_zero, List.getElem?_cons_succ] at b0 b1 b2 b3
  have HBX := Lib.hid hbx
  have HB := Lib.hid (HB.out.trans (hb.mono HB.out.size))
  clear hbx hb
  by_cases g1 : f1 = 0
  · subst g1
    go_wp2_with fail
    refine (HL.out _ HB.out).mono ?_
    rintro e w2 ⟨rfl, hb⟩
    have HB := Lib.hid (HB.out.trans (hb.mono HB.out.size))
    go_wp2
    go_ret
    exact ⟨rfl, HB.out⟩
  have g1' : ((f1 : Int) == 0) = false := by rw [beq_eq_false_iff_ne]; omega
  by_cases g2 : f4 = 0
  · subst g2
    clear g1
    go_wp2_with fail
    refine (HL.out _ HB.out).mono ?_
    rintro e w2 ⟨rfl, hb⟩
    have HB := Lib.hid (HB.out.trans (hb.mono HB.out.size))
    go_wp2
    go_ret
    exact ⟨rfl, HB.out⟩
  have g2' : ((f4 : Int) == 0) = false := by rw [beq_eq_false_iff_ne]; omega
  have HG := Lib.hid (show EnGood (f1, f2, f3, f4) from ⟨⟨o1, o2, o3, o4, o5⟩, g1, g2⟩)
  clear g1 g2
  by_cases g3 : 200 < bs.length
  · have g3' : (200 : Int) < (bs.length : Int) := by omega
    go_wp2_with fail
    refine (HL.out _ HB.out).mono ?_
    rintro e w2 ⟨rfl, hb⟩
    have HB := Lib.hid (HB.out.trans (hb.mono HB.out.size))
    go_wp2
    go_ret
    exact ⟨rfl, HB.out⟩
  have g3' : ¬ (200 : Int) < (bs.length : Int) := by omega
  by_cases g4 : 300 < vs.length
  · have g4' : (300 : Int) < (vs.length : Int) := by omega
    go_wp2_with fail
    refine (HL.out _ HB.out).mono ?_
    rintro e w2 ⟨rfl, hb⟩
    have HB := Lib.hid (HB.out.trans (hb.mono HB.out.size))
    go_wp2
    go_ret
    exact ⟨rfl, HB.out⟩
  have g4' : ¬ (300 : Int) < (vs.length : Int) := by omega
  by_cases g5 : (4611686018427387904 : Int) < f2
  · skip
    go_wp2_with fail
    refine (HL.out _ HB.out).mono ?_
    rintro e w2 ⟨rfl, hb⟩
    have HB := Lib.hid (HB.out.trans (hb.mono HB.out.size))
    go_wp2
    go_ret
    exact ⟨rfl, HB.out⟩
  have hs1 := HB.out.size
  obtain ⟨wb, hwb⟩ : ∃ wb, wb = (w1.alloc (.cells #[.int .u32 (f1 : Nat), .int .i64 f2, .int .u64 (f3 : Nat), .int .u64 (f4 : Nat)] 47)).alloc (.cells #[.int .i64 2, .int .u32 0, .slice none 0 0, .slice (some ⟨w1.heap.size, 0, none⟩) 1 1] 27) := ⟨_, rfl⟩
  have hbb : Below w1.heap.size w1 wb := by rw [hwb]; exact ((RowKit.Below.refl _ _).alloc (Nat.le_refl _) _).alloc (by simp) _
  have hown : wb.ownsRow w1.heap.size 47 4 (.slice (some ⟨w1.heap.size, 0, none⟩) 1 1) 1 (ecells [(f1, f2, f3, f4)]) := by rw [hwb]; exact (own_single w1 (f1, f2, f3, f4)).alloc _
  have h7b : wb.heap[w1.heap.size + 1]? = some (.cells #[.int .i64 2, .int .u32 0, .slice none 0 0, .slice (some ⟨w1.heap.size, 0, none⟩) 1 1] 27 (0, 0)) := by rw [hwb]; exact heap_alloc_new2 w1 _ _
  have hp0 := near_one HG.out
  have hbw := HB.out.trans (hbb.mono hs1)
  have hsa := size_any ⟨2, 0, none, 0, [], some ⟨w1.heap.size, 0, none⟩, 1, [(f1, f2, f3, f4)]⟩ wb (HT.out.below hbw) ⟨Rd.nil _ _, own_rdE hown rfl⟩ ⟨by simp, fun y hy => by cases hy⟩ (by simp) (near_check hp0 (by omega)).2
  have hns := near_size hp0 (by omega)
  rw [show Rv.p ⟨2, 0, none, 0, [], some ⟨w1.heap.size, 0, none⟩, 1, [(f1, f2, f3, f4)]⟩ = (2, 0, [], [(f1, f2, f3, f4)]) from rfl, hns] at hsa
  have hsx : 1 + (if 0 + 1 < 128 then 1 else 2) + (entB en0 (f1, f2, f3, f4)).length + 11 * 0 = 2 + (entB en0 (f1, f2, f3, f4)).length := by rw [if_pos (by omega)]; omega
  rw [hsx] at hsa
  have hbl := entB_len en0 (f1, f2, f3, f4)
  obtain ⟨S0, hS0⟩ : ∃ S, S = 2 + (entB en0 (f1, f2, f3, f4)).length := ⟨_, rfl⟩
  rw [← hS0] at hsa
  have hS40 : S0 ≤ 40 := by omega
  have hS2 : 2 ≤ S0 := by omega
  obtain ⟨g7, hg7⟩ : ∃ g, g = w1.heap.size + 1 := ⟨_, rfl⟩
  have hw7 : w.heap.size ≤ g7 := by omega
  rw [← hg7] at h7b
  have hx3b := (hbb.block _ (blk_lt HBX.out)).trans HBX.out
  have y0 := cell_blk h7b 0; have y1 := cell_blk h7b 1; have y2 := cell_blk h7b 2; have y3 := cell_blk h7b 3
  simp only [List.getElem?_toArray, List.getElem?_cons_zero, List.getElem?_cons_succ] at y0 y1 y2 y3
  have HSA := Lib.hid hsa; have HOWN := Lib.hid (hown.lower hs1); have H7B := Lib.hid h7b; have HBX := Lib.hid hx3b; have HB := Lib.hid hbw; have HP0 := Lib.hid hp0; have HS0 := Lib.hid hS0; have HWB := Lib.hid hwb; have HG7 := Lib.hid hg7
  have hg71 : w1.heap.size + 1 < wb.heap.size := by rw [← hg7]; exact blk_lt h7b
  clear hbb hown h7b hp0 hbw hsa hns hsx hbl hS0 hx3b hwb hg7 hs1 y0 y1 y2 y3
  go_wp2_with fail
  rw [← HWB.out, ← HG7.out]
  clear b0 b1 b2 b3
  refine HSA.out.mono ?_
  rintro e w2 ⟨rfl, hb⟩
  have hbx := (hb.block _ (blk_lt HBX.out)).trans HBX.out
  have b0 := cell_blk hbx 0; have b1 := cell_blk hbx 1; have b2 := cell_blk hbx 2; have b3 := cell_blk hbx 3
  simp only [List.getElem?_toArray, List.getElem?_cons_zero, List.getElem?_cons_succ] at b0 b1 b2 b3
  obtain ⟨w3, hw3⟩ : ∃ w3, w3 = w2.alloc (.cells #[.int .u32 (f1 : Nat), .int .i64 f2, .int .u64 (f3 : Nat), .int .u64 (f4 : Nat)] 47) := ⟨_, rfl⟩
  obtain ⟨g9, hg9⟩ : ∃ g, g = w2.heap.size := ⟨_, rfl⟩
  have hb3 : Below w2.heap.size w2 w3 := by rw [hw3]; exact (RowKit.Below.refl _ _).alloc (Nat.le_refl _) _
  have h93 : EBox w3 g9 (f1, f2, f3, f4) := by rw [hw3, hg9]; exact heap_alloc_new w2 _
  have h73 := (hb3.block _ (by have := blk_lt H7B.out; have := hb.size; omega)).trans ((hb.block _ (blk_lt H7B.out)).trans H7B.out)
  have ho2 := own_moved HOWN.out (w' := w2) (fun g hg => hb.block g (HOWN.out.lt g hg).2)
  have ho3 := own_moved ho2 (w' := w3) (fun g hg => hb3.block g (ho2.lt g hg).2)
  have hne0 : (Value.slice (some ⟨w1.heap.size, 0, none⟩) 1 1).ownBlock ≠ some g9 := fun e => by have := (ho2.lt _ e).2; omega
  have hn79 : g7 ≠ g9 := by have h := blk_lt ((hb.block _ (blk_lt H7B.out)).trans H7B.out); omega
  have hb03 := (HB.out.trans (hb.mono HB.out.size)).trans (hb3.mono (HB.out.trans (hb.mono HB.out.size)).size)
  have hw9 : w.heap.size ≤ g9 := by rw [hg9]; exact (HB.out.trans (hb.mono HB.out.size)).size
  have H93 := Lib.hid h93; have H73 := Lib.hid h73; have HO3 := Lib.hid ho3; have HNE0 := Lib.hid hne0; have HB03 := Lib.hid hb03; have HW3 := Lib.hid hw3; have HG9 := Lib.hid hg9
  clear hbx hb hb3 h93 h73 ho2 ho3 hne0 hb03 hw3 hg9 hg71
  go_wp2
  rw [← HW3.out, ← HG9.out]
  clear b0 b1 b2 b3
  go_loopw [52] (fun s52 wr => ∃ (k : Nat) (e : En) (l : List En) (A' : Option Addr) (c' : Nat), s52 = .int .i64 k ∧ k ≤ bs.length ∧ Aside (NearP (f1, f2, f3, f4) l e k) ∧ Aside (EBox wr g9 e) ∧ Aside (wr.heap[g7]? = some (.cells #[.int .i64 2, .int .u32 0, .slice none 0 0, .slice A' (k + 1) c'] 27 (0, 0))) ∧ Aside (wr.ownsRow w.heap.size 47 4 (.slice A' (k + 1) c') (k + 1) (ecells l)) ∧ Aside ((Value.slice A' (k + 1) c').ownBlock ≠ some g9) ∧ Aside (Below w.heap.size w wr)) (fun s52 _ => bs.length - (intOf s52).toNat)
  case atStart => exact ⟨0, (f1, f2, f3, f4), [(f1, f2, f3, f4)], some ⟨w1.heap.size, 0, none⟩, 1, rfl, by omega, HP0.out, H93.out, H73.out, HO3.out, HNE0.out, HB03.out⟩
  case round =>
    obtain ⟨k, e, l, A', c', rfl, hk, HP, H9, H7, OW, HNE, HBW⟩ := hrel
    have k0 : (0 : Int) ≤ (k : Int) := by omega
    obtain ⟨e1, e2, e3, e4⟩ := e
    have HLN := Lib.hid HP.out.len
    by_cases hlt : k < bs.length
    · have k1 : (k : Int) < (bs.length : Int) := by omega
      obtain ⟨lb, lo, rfl, q0⟩ := (HLR.out.below HBW.out) k (.bool bs[k]) (by simp [hlt])
      have t0 : f2 ≤ e2 := HP.out.t0
      have t1 : e2 ≤ f2 + k := HP.out.t1
      have v0 : e3 < 18446744073709551616 := HP.out.v
      have c90 := cell_blk H9.out 0; have c91 := cell_blk H9.out 1; have c92 := cell_blk H9.out 2; have c93 := cell_blk H9.out 3
      unfold boxEn at c90 c91 c92 c93
      simp only [List.getElem?_toArray, List.getElem?_cons_zero, List.getElem?_cons_succ] at c90 c91 c92 c93
      have f91 := free_blk H9.out 1; have f92 := free_blk H9.out 2
      have c73 := cell_blk H7.out 3
      simp only [List.getElem?_toArray, List.getElem?_cons_zero, List.getElem?_cons_succ] at c73
      have hn97 := Ne.symm hn79
      cases hq : bs[k] with
      | true =>
        rw [hq] at q0
        by_cases hv : k < vs.length
        · have kv : (k : Int) < (vs.length : Int) := by omega
          obtain ⟨vb, vo, rfl, u0⟩ := (HVR.out.below HBW.out) k (UvJ vs[k]) (by simp [hv])
          have hvg : vb ≠ g9 := by
            obtain ⟨vb2, vo2, ee, u2⟩ := HVR.out k (UvJ vs[k]) (by simp [hv])
            injection ee with ee; injection ee with ee1 ee2 _; subst ee1
            have := World.block_lt_of_cell? w _ u2
            simp only at this
            omega
          have hvk := HVB.out vs[k] (List.getElem_mem hv)
          generalize vs[k] = vk at u0 hvk
          unfold UvJ at u0
          have hm6 : Mv (fun i => i = g9) wr ((wr.setCell ⟨g9, 1, none⟩ (.int .i64 (e2 + 1))).setCell ⟨g9, 2, none⟩ (.int .u64 (vk : Nat))) := Mv.setCell (S := fun i => i = g9) (Mv.setCell (S := fun i => i = g9) (Mv.refl _ wr) (p := ⟨g9, 1, none⟩) (fun _ => rfl) _) (p := ⟨g9, 2, none⟩) (fun _ => rfl) _
          have how := own_moved OW.out (w' := (wr.setCell ⟨g9, 1, none⟩ (.int .i64 (e2 + 1))).setCell ⟨g9, 2, none⟩ (.int .u64 (vk : Nat))) (fun g hg => hm6.block g (OW.out.lt g hg).2 (fun e => HNE.out (by rw [← e]; exact hg)))
          have h9W : EBox ((wr.setCell ⟨g9, 1, none⟩ (.int .i64 (e2 + 1))).setCell ⟨g9, 2, none⟩ (.int .u64 (vk : Nat))) g9 (e1, (e2 + 1), (vk : Nat), e4) := (set_blk ((set_blk (H9.out) 1 (.int .i64 (e2 + 1)))) 2 (.int .u64 (vk : Nat)))
          have h7W := keep_mv hm6 H7.out hn79
          have hbw : Below w.heap.size w ((wr.setCell ⟨g9, 1, none⟩ (.int .i64 (e2 + 1))).setCell ⟨g9, 2, none⟩ (.int .u64 (vk : Nat))) := HBW.out.trans (hm6.belowB HBW.out.size (fun i hi e => by omega))
          have hbx : Mv (fun _ => False) ((wr.setCell ⟨g9, 1, none⟩ (.int .i64 (e2 + 1))).setCell ⟨g9, 2, none⟩ (.int .u64 (vk : Nat))) (((wr.setCell ⟨g9, 1, none⟩ (.int .i64 (e2 + 1))).setCell ⟨g9, 2, none⟩ (.int .u64 (vk : Nat))).alloc (.cells #[.int .u32 (e1 : Nat), .int .i64 (e2 + 1), .int .u64 (vk : Nat), .int .u64 (e4 : Nat)] 47)) := (Mv.refl _ _).alloc _
          have how2 := how.alloc (.cells #[.int .u32 (e1 : Nat), .int .i64 (e2 + 1), .int .u64 (vk : Nat), .int .u64 (e4 : Nat)] 47)
          have h9W2 := h9W.alloc (.cells #[.int .u32 (e1 : Nat), .int .i64 (e2 + 1), .int .u64 (vk : Nat), .int .u64 (e4 : Nat)] 47)
          have h7W2 := (Below.heap_alloc ((wr.setCell ⟨g9, 1, none⟩ (.int .i64 (e2 + 1))).setCell ⟨g9, 2, none⟩ (.int .u64 (vk : Nat))) (.cells #[.int .u32 (e1 : Nat), .int .i64 (e2 + 1), .int .u64 (vk : Nat), .int .u64 (e4 : Nat)] 47) _ (blk_lt h7W)).trans h7W
          have hbw2 := hbw.alloc hbw.size (.cells #[.int .u32 (e1 : Nat), .int .i64 (e2 + 1), .int .u64 (vk : Nat), .int .u64 (e4 : Nat)] 47)
          have hrx := EBox.rd (EBox.new ((wr.setCell ⟨g9, 1, none⟩ (.int .i64 (e2 + 1))).setCell ⟨g9, 2, none⟩ (.int .u64 (vk : Nat))) (e1, (e2 + 1), vk, e4))
          have hsz6 : ((wr.setCell ⟨g9, 1, none⟩ (.int .i64 (e2 + 1))).setCell ⟨g9, 2, none⟩ (.int .u64 (vk : Nat))).heap.size = wr.heap.size := by simp [World.setCell]
          rw [hsz6] at hrx
          have HOW := Lib.hid how2; have H9W := Lib.hid h9W2; have H7W := Lib.hid h7W2; have HBW2 := Lib.hid hbw2; have HRX := Lib.hid hrx; have HS6 := Lib.hid hsz6
          have HP2 := Lib.hid (HP.out.step HG.out (by show f2 ≤ _; omega) (by omega) (x := (e1, (e2 + 1), vk, e4)) rfl rfl (by show e2 ≤ (e2 + 1); omega) (by show (e2 + 1) ≤ e2 + 1; omega) (by show vk < _; omega))
          clear hm6 how h9W h7W hbw hbx how2 h9W2 h7W2 hbw2 hrx hsz6
          go_wp2_with (first
            | (at_builtin; go_must (refine wpList_append_one rfl _ _ rfl w.heap.size _ l (k + 1) HLN.out rfl HOW.out ⟨wr.heap.size, 0, none⟩ (e1, (e2 + 1), vk, e4) rfl HRX.out (by have := HLN.out; omega) HBW2.out.size ?_; intro A5 c5 w5 own5 grow5 hat5; have h75 := kept4 HOW.out grow5 H7W.out (by decide); have h95 : EBox w5 g9 (e1, (e2 + 1), vk, e4) := (grow5.block g9 (blk_lt H9W.out) (fun e => HNE.out e.symm)).trans H9W.out; have z3 := cell_blk h75 3; have zf3 := free_blk h75 3; simp only [List.getElem?_toArray, List.getElem?_cons_zero, List.getElem?_cons_succ] at z3; have hb5 := HBW2.out.grown grow5 HBW2.out.size (fun k h => (HOW.out.lt k h).1); have hne5 : (Value.slice A5 (k + 1 + 1) c5).ownBlock ≠ some g9 := fun e => hat5.elim (fun h => HNE.out (h.symm.trans e)) (fun h => absurd (Option.some.inj (h.symm.trans e)) (by have := blk_lt H9W.out; omega)); have H75 := Lib.hid h75; have H95 := Lib.hid h95; have HB5 := Lib.hid hb5; have HO5 := Lib.hid own5; have HN5 := Lib.hid hne5; clear own5 grow5 hat5 h75 h95 hb5 hne5))
            | fail)
          have hm7 : Mv (fun i => i = g7) w5 (w5.setCell ⟨g7, 3, none⟩ (.slice A5 (k + 1 + 1) c5)) := Mv.setCell (S := fun i => i = g7) (Mv.refl _ w5) (p := ⟨g7, 3, none⟩) (fun _ => rfl) _
          have h76 := set_blk H75.out 3 (.slice A5 (k + 1 + 1) c5)
          simp only [List.setIfInBounds_toArray, List.set_cons_succ, List.set_cons_zero] at h76
          have h96 : EBox (w5.setCell ⟨g7, 3, none⟩ (.slice A5 (k + 1 + 1) c5)) g9 (e1, (e2 + 1), vk, e4) := keep_mv hm7 H95.out (Ne.symm hn79)
          have ho6 := own_moved HO5.out (w' := w5.setCell ⟨g7, 3, none⟩ (.slice A5 (k + 1 + 1) c5)) (fun g hg => hm7.block g (HO5.out.lt g hg).2 (fun e => own_blk HO5.out H75.out (by decide) (by rw [← e]; exact hg)))
          have hb6 := HB5.out.trans (hm7.belowB HB5.out.size (fun i hi e => by omega))
          have H76 := Lib.hid h76; have H96 := Lib.hid h96; have HO6 := Lib.hid ho6; have HB6 := Lib.hid hb6
          clear hm7 h76 h96 ho6 hb6
          go_wp2
          go_roundw
          case rel => exact ⟨k + 1, (e1, (e2 + 1), vk, e4), l ++ [(e1, (e2 + 1), vk, e4)], A5, c5, by go_num, by omega, (show Aside _ from HP2.out), (show Aside _ from H96.out), (show Aside _ from H76.out), (show Aside _ from HO6.out), (show Aside _ from HN5.out), (show Aside _ from HB6.out)⟩
          case measure => simp [intOf]; omega
        · have kv : ¬ (k : Int) < (vs.length : Int) := by omega
          have hm6 : Mv (fun i => i = g9) wr (wr.setCell ⟨g9, 1, none⟩ (.int .i64 (e2 + 1))) := Mv.setCell (S := fun i => i = g9) (Mv.refl _ wr) (p := ⟨g9, 1, none⟩) (fun _ => rfl) _
          have how := own_moved OW.out (w' := wr.setCell ⟨g9, 1, none⟩ (.int .i64 (e2 + 1))) (fun g hg => hm6.block g (OW.out.lt g hg).2 (fun e => HNE.out (by rw [← e]; exact hg)))
          have h9W : EBox (wr.setCell ⟨g9, 1, none⟩ (.int .i64 (e2 + 1))) g9 (e1, (e2 + 1), (e3 : Nat), e4) := (set_blk (H9.out) 1 (.int .i64 (e2 + 1)))
          have h7W := keep_mv hm6 H7.out hn79
          have hbw : Below w.heap.size w (wr.setCell ⟨g9, 1, none⟩ (.int .i64 (e2 + 1))) := HBW.out.trans (hm6.belowB HBW.out.size (fun i hi e => by omega))
          have hbx : Mv (fun _ => False) (wr.setCell ⟨g9, 1, none⟩ (.int .i64 (e2 + 1))) ((wr.setCell ⟨g9, 1, none⟩ (.int .i64 (e2 + 1))).alloc (.cells #[.int .u32 (e1 : Nat), .int .i64 (e2 + 1), .int .u64 (e3 : Nat), .int .u64 (e4 : Nat)] 47)) := (Mv.refl _ _).alloc _
          have how2 := how.alloc (.cells #[.int .u32 (e1 : Nat), .int .i64 (e2 + 1), .int .u64 (e3 : Nat), .int .u64 (e4 : Nat)] 47)
          have h9W2 := h9W.alloc (.cells #[.int .u32 (e1 : Nat), .int .i64 (e2 + 1), .int .u64 (e3 : Nat), .int .u64 (e4 : Nat)] 47)
          have h7W2 := (Below.heap_alloc (wr.setCell ⟨g9, 1, none⟩ (.int .i64 (e2 + 1))) (.cells #[.int .u32 (e1 : Nat), .int .i64 (e2 + 1), .int .u64 (e3 : Nat), .int .u64 (e4 : Nat)] 47) _ (blk_lt h7W)).trans h7W
          have hbw2 := hbw.alloc hbw.size (.cells #[.int .u32 (e1 : Nat), .int .i64 (e2 + 1), .int .u64 (e3 : Nat), .int .u64 (e4 : Nat)] 47)
          have hrx := EBox.rd (EBox.new (wr.setCell ⟨g9, 1, none⟩ (.int .i64 (e2 + 1))) (e1, (e2 + 1), e3, e4))
          have hsz6 : (wr.setCell ⟨g9, 1, none⟩ (.int .i64 (e2 + 1))).heap.size = wr.heap.size := by simp [World.setCell]
          rw [hsz6] at hrx
          have HOW := Lib.hid how2; have H9W := Lib.hid h9W2; have H7W := Lib.hid h7W2; have HBW2 := Lib.hid hbw2; have HRX := Lib.hid hrx; have HS6 := Lib.hid hsz6
          have HP2 := Lib.hid (HP.out.step HG.out (by show f2 ≤ _; omega) (by omega) (x := (e1, (e2 + 1), e3, e4)) rfl rfl (by show e2 ≤ (e2 + 1); omega) (by show (e2 + 1) ≤ e2 + 1; omega) (by show e3 < _; omega))
          clear hm6 how h9W h7W hbw hbx how2 h9W2 h7W2 hbw2 hrx hsz6
          go_wp2_with (first
            | (at_builtin; go_must (refine wpList_append_one rfl _ _ rfl w.heap.size _ l (k + 1) HLN.out rfl HOW.out ⟨wr.heap.size, 0, none⟩ (e1, (e2 + 1), e3, e4) rfl HRX.out (by have := HLN.out; omega) HBW2.out.size ?_; intro A5 c5 w5 own5 grow5 hat5; have h75 := kept4 HOW.out grow5 H7W.out (by decide); have h95 : EBox w5 g9 (e1, (e2 + 1), e3, e4) := (grow5.block g9 (blk_lt H9W.out) (fun e => HNE.out e.symm)).trans H9W.out; have z3 := cell_blk h75 3; have zf3 := free_blk h75 3; simp only [List.getElem?_toArray, List.getElem?_cons_zero, List.getElem?_cons_succ] at z3; have hb5 := HBW2.out.grown grow5 HBW2.out.size (fun k h => (HOW.out.lt k h).1); have hne5 : (Value.slice A5 (k + 1 + 1) c5).ownBlock ≠ some g9 := fun e => hat5.elim (fun h => HNE.out (h.symm.trans e)) (fun h => absurd (Option.some.inj (h.symm.trans e)) (by have := blk_lt H9W.out; omega)); have H75 := Lib.hid h75; have H95 := Lib.hid h95; have HB5 := Lib.hid hb5; have HO5 := Lib.hid own5; have HN5 := Lib.hid hne5; clear own5 grow5 hat5 h75 h95 hb5 hne5))
            | fail)
          have hm7 : Mv (fun i => i = g7) w5 (w5.setCell ⟨g7, 3, none⟩ (.slice A5 (k + 1 + 1) c5)) := Mv.setCell (S := fun i => i = g7) (Mv.refl _ w5) (p := ⟨g7, 3, none⟩) (fun _ => rfl) _
          have h76 := set_blk H75.out 3 (.slice A5 (k + 1 + 1) c5)
          simp only [List.setIfInBounds_toArray, List.set_cons_succ, List.set_cons_zero] at h76
          have h96 : EBox (w5.setCell ⟨g7, 3, none⟩ (.slice A5 (k + 1 + 1) c5)) g9 (e1, (e2 + 1), e3, e4) := keep_mv hm7 H95.out (Ne.symm hn79)
          have ho6 := own_moved HO5.out (w' := w5.setCell ⟨g7, 3, none⟩ (.slice A5 (k + 1 + 1) c5)) (fun g hg => hm7.block g (HO5.out.lt g hg).2 (fun e => own_blk HO5.out H75.out (by decide) (by rw [← e]; exact hg)))
          have hb6 := HB5.out.trans (hm7.belowB HB5.out.size (fun i hi e => by omega))
          have H76 := Lib.hid h76; have H96 := Lib.hid h96; have HO6 := Lib.hid ho6; have HB6 := Lib.hid hb6
          clear hm7 h76 h96 ho6 hb6
          go_wp2
          go_roundw
          case rel => exact ⟨k + 1, (e1, (e2 + 1), e3, e4), l ++ [(e1, (e2 + 1), e3, e4)], A5, c5, by go_num, by omega, (show Aside _ from HP2.out), (show Aside _ from H96.out), (show Aside _ from H76.out), (show Aside _ from HO6.out), (show Aside _ from HN5.out), (show Aside _ from HB6.out)⟩
          case measure => simp [intOf]; omega
      | false =>
        rw [hq] at q0
        by_cases hv : k < vs.length
        · have kv : (k : Int) < (vs.length : Int) := by omega
          obtain ⟨vb, vo, rfl, u0⟩ := (HVR.out.below HBW.out) k (UvJ vs[k]) (by simp [hv])
          have hvg : vb ≠ g9 := by
            obtain ⟨vb2, vo2, ee, u2⟩ := HVR.out k (UvJ vs[k]) (by simp [hv])
            injection ee with ee; injection ee with ee1 ee2 _; subst ee1
            have := World.block_lt_of_cell? w _ u2
            simp only at this
            omega
          have hvk := HVB.out vs[k] (List.getElem_mem hv)
          generalize vs[k] = vk at u0 hvk
          unfold UvJ at u0
          have hm6 : Mv (fun i => i = g9) wr ((wr).setCell ⟨g9, 2, none⟩ (.int .u64 (vk : Nat))) := Mv.setCell (S := fun i => i = g9) (Mv.refl _ wr) (p := ⟨g9, 2, none⟩) (fun _ => rfl) _
          have how := own_moved OW.out (w' := (wr).setCell ⟨g9, 2, none⟩ (.int .u64 (vk : Nat))) (fun g hg => hm6.block g (OW.out.lt g hg).2 (fun e => HNE.out (by rw [← e]; exact hg)))
          have h9W : EBox ((wr).setCell ⟨g9, 2, none⟩ (.int .u64 (vk : Nat))) g9 (e1, e2, (vk : Nat), e4) := (set_blk (H9.out) 2 (.int .u64 (vk : Nat)))
          have h7W := keep_mv hm6 H7.out hn79
          have hbw : Below w.heap.size w ((wr).setCell ⟨g9, 2, none⟩ (.int .u64 (vk : Nat))) := HBW.out.trans (hm6.belowB HBW.out.size (fun i hi e => by omega))
          have hbx : Mv (fun _ => False) ((wr).setCell ⟨g9, 2, none⟩ (.int .u64 (vk : Nat))) (((wr).setCell ⟨g9, 2, none⟩ (.int .u64 (vk : Nat))).alloc (.cells #[.int .u32 (e1 : Nat), .int .i64 e2, .int .u64 (vk : Nat), .int .u64 (e4 : Nat)] 47)) := (Mv.refl _ _).alloc _
          have how2 := how.alloc (.cells #[.int .u32 (e1 : Nat), .int .i64 e2, .int .u64 (vk : Nat), .int .u64 (e4 : Nat)] 47)
          have h9W2 := h9W.alloc (.cells #[.int .u32 (e1 : Nat), .int .i64 e2, .int .u64 (vk : Nat), .int .u64 (e4 : Nat)] 47)
          have h7W2 := (Below.heap_alloc ((wr).setCell ⟨g9, 2, none⟩ (.int .u64 (vk : Nat))) (.cells #[.int .u32 (e1 : Nat), .int .i64 e2, .int .u64 (vk : Nat), .int .u64 (e4 : Nat)] 47) _ (blk_lt h7W)).trans h7W
          have hbw2 := hbw.alloc hbw.size (.cells #[.int .u32 (e1 : Nat), .int .i64 e2, .int .u64 (vk : Nat), .int .u64 (e4 : Nat)] 47)
          have hrx := EBox.rd (EBox.new ((wr).setCell ⟨g9, 2, none⟩ (.int .u64 (vk : Nat))) (e1, e2, vk, e4))
          have hsz6 : ((wr).setCell ⟨g9, 2, none⟩ (.int .u64 (vk : Nat))).heap.size = wr.heap.size := by simp [World.setCell]
          rw [hsz6] at hrx
          have HOW := Lib.hid how2; have H9W := Lib.hid h9W2; have H7W := Lib.hid h7W2; have HBW2 := Lib.hid hbw2; have HRX := Lib.hid hrx; have HS6 := Lib.hid hsz6
          have HP2 := Lib.hid (HP.out.step HG.out (by show f2 ≤ _; omega) (by omega) (x := (e1, e2, vk, e4)) rfl rfl (by show e2 ≤ e2; omega) (by show e2 ≤ e2 + 1; omega) (by show vk < _; omega))
          clear hm6 how h9W h7W hbw hbx how2 h9W2 h7W2 hbw2 hrx hsz6
          go_wp2_with (first
            | (at_builtin; go_must (refine wpList_append_one rfl _ _ rfl w.heap.size _ l (k + 1) HLN.out rfl HOW.out ⟨wr.heap.size, 0, none⟩ (e1, e2, vk, e4) rfl HRX.out (by have := HLN.out; omega) HBW2.out.size ?_; intro A5 c5 w5 own5 grow5 hat5; have h75 := kept4 HOW.out grow5 H7W.out (by decide); have h95 : EBox w5 g9 (e1, e2, vk, e4) := (grow5.block g9 (blk_lt H9W.out) (fun e => HNE.out e.symm)).trans H9W.out; have z3 := cell_blk h75 3; have zf3 := free_blk h75 3; simp only [List.getElem?_toArray, List.getElem?_cons_zero, List.getElem?_cons_succ] at z3; have hb5 := HBW2.out.grown grow5 HBW2.out.size (fun k h => (HOW.out.lt k h).1); have hne5 : (Value.slice A5 (k + 1 + 1) c5).ownBlock ≠ some g9 := fun e => hat5.elim (fun h => HNE.out (h.symm.trans e)) (fun h => absurd (Option.some.inj (h.symm.trans e)) (by have := blk_lt H9W.out; omega)); have H75 := Lib.hid h75; have H95 := Lib.hid h95; have HB5 := Lib.hid hb5; have HO5 := Lib.hid own5; have HN5 := Lib.hid hne5; clear own5 grow5 hat5 h75 h95 hb5 hne5))
            | fail)
          have hm7 : Mv (fun i => i = g7) w5 (w5.setCell ⟨g7, 3, none⟩ (.slice A5 (k + 1 + 1) c5)) := Mv.setCell (S := fun i => i = g7) (Mv.refl _ w5) (p := ⟨g7, 3, none⟩) (fun _ => rfl) _
          have h76 := set_blk H75.out 3 (.slice A5 (k + 1 + 1) c5)
          simp only [List.setIfInBounds_toArray, List.set_cons_succ, List.set_cons_zero] at h76
          have h96 : EBox (w5.setCell ⟨g7, 3, none⟩ (.slice A5 (k + 1 + 1) c5)) g9 (e1, e2, vk, e4) := keep_mv hm7 H95.out (Ne.symm hn79)
          have ho6 := own_moved HO5.out (w' := w5.setCell ⟨g7, 3, none⟩ (.slice A5 (k + 1 + 1) c5)) (fun g hg => hm7.block g (HO5.out.lt g hg).2 (fun e => own_blk HO5.out H75.out (by decide) (by rw [← e]; exact hg)))
          have hb6 := HB5.out.trans (hm7.belowB HB5.out.size (fun i hi e => by omega))
          have H76 := Lib.hid h76; have H96 := Lib.hid h96; have HO6 := Lib.hid ho6; have HB6 := Lib.hid hb6
          clear hm7 h76 h96 ho6 hb6
          go_wp2
          go_roundw
          case rel => exact ⟨k + 1, (e1, e2, vk, e4), l ++ [(e1, e2, vk, e4)], A5, c5, by go_num, by omega, (show Aside _ from HP2.out), (show Aside _ from H96.out), (show Aside _ from H76.out), (show Aside _ from HO6.out), (show Aside _ from HN5.out), (show Aside _ from HB6.out)⟩
          case measure => simp [intOf]; omega
        · have kv : ¬ (k : Int) < (vs.length : Int) := by omega
          have hm6 : Mv (fun i => i = g9) wr wr := Mv.refl _ wr
          have how := own_moved OW.out (w' := wr) (fun g hg => hm6.block g (OW.out.lt g hg).2 (fun e => HNE.out (by rw [← e]; exact hg)))
          have h9W : EBox wr g9 (e1, e2, (e3 : Nat), e4) := H9.out
          have h7W := keep_mv hm6 H7.out hn79
          have hbw : Below w.heap.size w wr := HBW.out.trans (hm6.belowB HBW.out.size (fun i hi e => by omega))
          have hbx : Mv (fun _ => False) wr (wr.alloc (.cells #[.int .u32 (e1 : Nat), .int .i64 e2, .int .u64 (e3 : Nat), .int .u64 (e4 : Nat)] 47)) := (Mv.refl _ _).alloc _
          have how2 := how.alloc (.cells #[.int .u32 (e1 : Nat), .int .i64 e2, .int .u64 (e3 : Nat), .int .u64 (e4 : Nat)] 47)
          have h9W2 := h9W.alloc (.cells #[.int .u32 (e1 : Nat), .int .i64 e2, .int .u64 (e3 : Nat), .int .u64 (e4 : Nat)] 47)
          have h7W2 := (Below.heap_alloc wr (.cells #[.int .u32 (e1 : Nat), .int .i64 e2, .int .u64 (e3 : Nat), .int .u64 (e4 : Nat)] 47) _ (blk_lt h7W)).trans h7W
          have hbw2 := hbw.alloc hbw.size (.cells #[.int .u32 (e1 : Nat), .int .i64 e2, .int .u64 (e3 : Nat), .int .u64 (e4 : Nat)] 47)
          have hrx := EBox.rd (EBox.new wr (e1, e2, e3, e4))
          have hsz6 : True := trivial
          have HOW := Lib.hid how2; have H9W := Lib.hid h9W2; have H7W := Lib.hid h7W2; have HBW2 := Lib.hid hbw2; have HRX := Lib.hid hrx; have HS6 := Lib.hid hsz6
          have HP2 := Lib.hid (HP.out.step HG.out (by show f2 ≤ _; omega) (by omega) (x := (e1, e2, e3, e4)) rfl rfl (by show e2 ≤ e2; omega) (by show e2 ≤ e2 + 1; omega) (by show e3 < _; omega))
          clear hm6 how h9W h7W hbw hbx how2 h9W2 h7W2 hbw2 hrx hsz6
          go_wp2_with (first
            | (at_builtin; go_must (refine wpList_append_one rfl _ _ rfl w.heap.size _ l (k + 1) HLN.out rfl HOW.out ⟨wr.heap.size, 0, none⟩ (e1, e2, e3, e4) rfl HRX.out (by have := HLN.out; omega) HBW2.out.size ?_; intro A5 c5 w5 own5 grow5 hat5; have h75 := kept4 HOW.out grow5 H7W.out (by decide); have h95 : EBox w5 g9 (e1, e2, e3, e4) := (grow5.block g9 (blk_lt H9W.out) (fun e => HNE.out e.symm)).trans H9W.out; have z3 := cell_blk h75 3; have zf3 := free_blk h75 3; simp only [List.getElem?_toArray, List.getElem?_cons_zero, List.getElem?_cons_succ] at z3; have hb5 := HBW2.out.grown grow5 HBW2.out.size (fun k h => (HOW.out.lt k h).1); have hne5 : (Value.slice A5 (k + 1 + 1) c5).ownBlock ≠ some g9 := fun e => hat5.elim (fun h => HNE.out (h.symm.trans e)) (fun h => absurd (Option.some.inj (h.symm.trans e)) (by have := blk_lt H9W.out; omega)); have H75 := Lib.hid h75; have H95 := Lib.hid h95; have HB5 := Lib.hid hb5; have HO5 := Lib.hid own5; have HN5 := Lib.hid hne5; clear own5 grow5 hat5 h75 h95 hb5 hne5))
            | fail)
          have hm7 : Mv (fun i => i = g7) w5 (w5.setCell ⟨g7, 3, none⟩ (.slice A5 (k + 1 + 1) c5)) := Mv.setCell (S := fun i => i = g7) (Mv.refl _ w5) (p := ⟨g7, 3, none⟩) (fun _ => rfl) _
          have h76 := set_blk H75.out 3 (.slice A5 (k + 1 + 1) c5)
          simp only [List.setIfInBounds_toArray, List.set_cons_succ, List.set_cons_zero] at h76
          have h96 : EBox (w5.setCell ⟨g7, 3, none⟩ (.slice A5 (k + 1 + 1) c5)) g9 (e1, e2, e3, e4) := keep_mv hm7 H95.out (Ne.symm hn79)
          have ho6 := own_moved HO5.out (w' := w5.setCell ⟨g7, 3, none⟩ (.slice A5 (k + 1 + 1) c5)) (fun g hg => hm7.block g (HO5.out.lt g hg).2 (fun e => own_blk HO5.out H75.out (by decide) (by rw [← e]; exact hg)))
          have hb6 := HB5.out.trans (hm7.belowB HB5.out.size (fun i hi e => by omega))
          have H76 := Lib.hid h76; have H96 := Lib.hid h96; have HO6 := Lib.hid ho6; have HB6 := Lib.hid hb6
          clear hm7 h76 h96 ho6 hb6
          go_wp2
          go_roundw
          case rel => exact ⟨k + 1, (e1, e2, e3, e4), l ++ [(e1, e2, e3, e4)], A5, c5, by go_num, by omega, (show Aside _ from HP2.out), (show Aside _ from H96.out), (show Aside _ from H76.out), (show Aside _ from HO6.out), (show Aside _ from HN5.out), (show Aside _ from HB6.out)⟩
          case measure => simp [intOf]; omega
    · obtain rfl : k = bs.length := by omega
      have hk200 : bs.length ≤ 200 := by omega
      have hsa := size_any ⟨2, 0, none, 0, [], A', c', l⟩ wr (HT.out.below HBW.out) ⟨Rd.nil _ _, own_rdE OW.out HLN.out⟩ ⟨by simp, fun y hy => by cases hy⟩ (by have := HLN.out; show l.length ≤ _; omega) (near_check HP.out hk200).2
      have hns := near_size HP.out hk200
      rw [show Rv.p ⟨2, 0, none, 0, [], A', c', l⟩ = (2, 0, [], l) from rfl, hns] at hsa
      unfold rvC at hsa
      simp only at hsa
      rw [HLN.out] at hsa
      have hS := HS0.out
      have c70 := cell_blk H7.out 0; have c71 := cell_blk H7.out 1; have c72 := cell_blk H7.out 2; have c73 := cell_blk H7.out 3
      simp only [List.getElem?_toArray, List.getElem?_cons_zero, List.getElem?_cons_succ] at c70 c71 c72 c73
      by_cases hm : 127 < bs.length + 1
      · have hm' : (127 : Int) < (bs.length : Int) + 1 := by omega
        rw [if_neg (by omega)] at hsa
        obtain ⟨N, hN⟩ : ∃ N, N = 1 + 2 + (entB en0 (f1, f2, f3, f4)).length + 11 * bs.length := ⟨_, rfl⟩
        rw [← hN] at hsa
        have hN1 : N = S0 + 11 * bs.length + 1 := by omega
        have hNl : (S0 : Int) + 8 * (bs.length : Int) ≤ (N : Int) := by omega
        have hNu : (N : Int) ≤ (S0 : Int) + 11 * (bs.length : Int) + 1 := by omega
        have hS0' : (0 : Int) < (S0 : Int) := by omega
        have HSA := Lib.hid hsa
        clear hsa hns hS hN hN1 hm
        go_wp2_with fail
        refine HSA.out.mono ?_
        rintro e w5 ⟨rfl, hb⟩
        have h75 := (hb.block _ (blk_lt H7.out)).trans H7.out
        have d73 := cell_blk h75 3
        simp only [List.getElem?_toArray, List.getElem?_cons_zero, List.getElem?_cons_succ] at d73
        have HB5 := Lib.hid (HBW.out.trans (hb.mono HBW.out.size))
        clear h75 hb c70 c71 c72 c73
        go_wp2
        go_ret
        exact ⟨rfl, HB5.out⟩
      · have hm' : ¬ (127 : Int) < (bs.length : Int) + 1 := by omega
        rw [if_pos (by omega)] at hsa
        obtain ⟨N, hN⟩ : ∃ N, N = 1 + 1 + (entB en0 (f1, f2, f3, f4)).length + 11 * bs.length := ⟨_, rfl⟩
        rw [← hN] at hsa
        have hN1 : N = S0 + 11 * bs.length := by omega
        have hNl : (S0 : Int) + 8 * (bs.length : Int) ≤ (N : Int) := by omega
        have hNu : (N : Int) ≤ (S0 : Int) + 11 * (bs.length : Int) := by omega
        have hS0' : (0 : Int) < (S0 : Int) := by omega
        have HSA := Lib.hid hsa
        clear hsa hns hS hN hN1 hm
        go_wp2_with fail
        refine HSA.out.mono ?_
        rintro e w5 ⟨rfl, hb⟩
        have h75 := (hb.block _ (blk_lt H7.out)).trans H7.out
        have d73 := cell_blk h75 3
        simp only [List.getElem?_toArray, List.getElem?_cons_zero, List.getElem?_cons_succ] at d73
        have HB5 := Lib.hid (HBW.out.trans (hb.mono HBW.out.size))
        clear h75 hb c70 c71 c72 c73
        go_wp2
        go_ret
        exact ⟨rfl, HB5.out⟩
end

set_option maxRecDepth 100000 in
theorem recordNear_contract (H : Type) (enc : TypeId × Value → H) (W : World) (base : Nat) (args : Array Value) (ds gs : List (DataW H)) (before : List MemPlace)
    (hval : ∀ (j : Nat) t v, Tryd.f7.params[j]? = some t → args[j]? = some v → Value.okWide Tryd.prog W .any base t v)
    (hW : DataW.Whole enc Tryd.prog Tryd.f7.params.toList Rows.recordNearSpec.vars false W args.toList ds gs before) (hL : laidMetH Tryd.prog Rows.recordNearRow.laid W) :
    Calls Tryd.prog 7 args W fun e W' => ∃ v, e = .returned v ∧ Rows.recordNearSpec.post enc Tryd.prog Tryd.f7 false true false false W args v W' := by
  have hW' := hW
  obtain ⟨p, q, hA0, hV, rfl, hfz, hnd⟩ := hW
  have hA : DataW.TrodAll enc Tryd.prog W 0 (fun _ => true) true Tryd.f7.params.toList args.toList ds p := hA0
  rw [Tryd.params7] at hA hval
  obtain ⟨v0, vs0, d0, ds0, p0, q0, hargs, rfl, rfl, h0, r0⟩ := trodAll_cons hA
  obtain ⟨v1, vs1, d1, ds1, p1, q1, rfl, rfl, rfl, h1, r1⟩ := trodAll_cons r0
  obtain ⟨v2, vs2, d2, ds2, p2, q2, rfl, rfl, rfl, h2, r2⟩ := trodAll_cons r1
  obtain ⟨rfl, rfl, rfl⟩ := trodAll_nil r2
  obtain rfl : args = #[v0, v1, v2] := by cases args; simp_all
  obtain ⟨rfl, rfl⟩ := trodVars_none hV
  obtain ⟨e0, rfl, ho0⟩ := open_entry (hval 0 47 v0 rfl rfl) h0
  obtain ⟨A1, c1, xs1, rfl, hm1, hx1⟩ := open_rd_bools Tryd.underlying48 Tryd.underlying4 (by kernel_rfl) (hval 1 48 v1 rfl rfl) h1
  obtain ⟨A2, c2, xs2, rfl, hm2, hx2, hw2⟩ := open_u64s (hval 2 49 v2 rfl rfl) h2
  clear hA0 hA
  unfold maxLen at hm1
  unfold maxLen at hm2
  refine (rnear_walk e0 A1 c1 xs1 A2 c2 xs2 W (tabs hL) ho0 hx1 hx2 hw2).mono fun e W' ⟨he, hg⟩ => ?_
  subst he
  exact ⟨_, rfl, law_end laidOut (by kernel_rfl) (by kernel_rfl) Tryd.underlying4 rfl hW' ⟨rfl, rfl, rfl⟩ hg⟩

theorem recordNear_met (os : Os) : laidMet Tryd.prog Rows.recordNearRow.laid ((laidWorld os).forCall (fun _ _ => 0) ⟨#[], #[.agg #[.int .u32 0, .int .i64 0, .int .u64 0, .int .u64 0], .slice none 0 0, .slice none 0 0], []⟩).memory :=
  laid_met os _
theorem recordNear_reads (os : Os) {H : Type} (enc : TypeId × Value → H) : ∃ places, DataW.whole enc Tryd.prog ((laidWorld os).forCall (fun _ _ => 0) ⟨#[], #[.agg #[.int .u32 0, .int .i64 0, .int .u64 0, .int .u64 0], .slice none 0 0, .slice none 0 0], []⟩).memory Tryd.f7.params.toList Rows.recordNearSpec.vars false (#[.agg #[.int .u32 0, .int .i64 0, .int .u64 0, .int .u64 0], .slice none 0 0, .slice none 0 0] : Array Value).toList 8 = some ([.agg [.lit (.int .u32 0), .agg [.lit (.int .i64 0), .lit (.int .u64 0), .lit (.int .u64 0)]], .nil, .nil], [], places) :=
  ⟨[], by kernel_rfl⟩

set_option maxRecDepth 100000 in
theorem recordNear_lifted (os : Os) (started : os.Started) (H : Type) (enc : TypeId × Value → H) (F : Stop.Interp) :
    ReturnsInHanded {} Tryd.checked os 7 .any ((OpenSpec.ofChange Rows.recordNearSpec).preRow enc Tryd.prog Tryd.f7 Rows.recordNearRow.domain false Rows.recordNearRow.laid) (((OpenSpec.ofChange Rows.recordNearSpec).at F).post enc Tryd.prog Tryd.f7 false true false false) := by
  obtain ⟨places, hx⟩ := recordNear_reads os enc
  refine returnsInHanded_of_row (C := Tryd.checked) (s := OpenSpec.ofChange Rows.recordNearSpec) ownKn started (by kernel_rfl) Tryd.func7
    (witness_row_at (enc := enc) (C := Tryd.checked) false (laidWorld os) #[.agg #[.int .u32 0, .int .i64 0, .int .u64 0, .int .u64 0], .slice none 0 0, .slice none 0 0] rfl (by kernel_rfl) (by kernel_rfl) (by kernel_rfl)
      (OpenSpec.preRow_of_cond 8 hx (by kernel_rfl) (fun k hk => by cases hk) (by kernel_rfl) (recordNear_met os))) ?_
  intro W base args ds gs before hval hW _ _ _ hL _ _
  exact recordNear_contract H enc W base args ds gs before hval hW hL

theorem recordNear_said : Rows.RecordNearSaid :=
  OpenClaim.holds_of_cond 7 Tryd.f7 rfl rfl rfl rfl rfl rfl rfl ⟨rfl, rfl, rfl, rfl, rfl⟩ rfl rfl rfl rfl rfl (by kernel_rfl) Tryd.func7 (by kernel_rfl)
    (of_decide_eq_true (by kernel_rfl)) (by unfold Func.isWrapper; first | (rw [if_pos (by decide +kernel)]; kernel_rfl) | (rw [if_neg (by decide +kernel)]; exact ⟨rfl, rfl⟩))
    (fun os started H enc _ F => by rw [OpenClaim.pre_eq_preRow]; exact recordNear_lifted os started H enc F)

theorem recordNear_plain (f : FuncId) (fn : Func) (hf : Tryd.pinned.checked.prog.funcNamed "manometer/manometerlaw13.RecordNear" = some f) (hfn : Tryd.pinned.checked.prog.funcs[f]? = some fn) :
    false = Tryd.pinned.checked.prog.looks [] ∧ ∀ (j : Nat) t, fn.params[j]? = some t → Tryd.pinned.checked.prog.wantsStandIn t = false := by
  obtain rfl : f = 7 := Option.some.inj ((show Tryd.prog.funcNamed "manometer/manometerlaw13.RecordNear" = some 7 by kernel_rfl).symm.trans hf) |>.symm
  obtain rfl : fn = Tryd.f7 := (Option.some.inj (Tryd.func7.symm.trans hfn)).symm
  refine ⟨by kernel_rfl, fun j t ht => ?_⟩
  rw [Tryd.params7] at ht
  have hm : t = 47 ∨ t = 48 ∨ t = 49 := by simpa using Array.mem_of_getElem? ht
  rcases hm with rfl | rfl | rfl
  · exact (show Tryd.prog.wantsStandIn 47 = false by kernel_rfl)
  · exact (show Tryd.prog.wantsStandIn 48 = false by kernel_rfl)
  · exact (show Tryd.prog.wantsStandIn 49 = false by kernel_rfl)

theorem recordNear_card : Rows.RecordNearCardSaid :=
  Claim7.holds_tied_plain_at .later [] _ _ _ _ recordNear_said (fun _ h => by cases h) (by kernel_rfl) (fun _ h => by cases h) recordNear_row_tie rfl ⟨rfl, rfl⟩ (by kernel_rfl) rfl recordNear_plain (by kernel_rfl)
#print axioms recordNear_card
end Go.Proofs.YtgogpngobdafaaaDoor
