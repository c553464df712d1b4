/-
  The plain answers' index: Add, Cut.
-/
import Derived.Maps.AppendAt
import Derived.Test.YtjgappbomohlcaaGreatDoorKPya
import Derived.Test.YtjgappbomohlcaaGreatDoorK03
namespace Go.Proofs.YtjgappbomohlcaaGreatDoor
section
set_option linter.unusedVariables false
set_option linter.unusedSimpArgs false
open Go.RowKit
theorem infoSr : (Tryz.prog.info? 84).map (fun i => (i.zero, i.size, i.bytes)) = some (some (.agg #[.int .u64 0, .slice none 0 0]), 2, 32) := by kernel_rfl
theorem own_empty_s (w : World) : (w.alloc (.cells #[] 84)).ownsRow w.heap.size 84 2 (.slice (some ⟨w.heap.size, 0, none⟩) 0 0) 0 [] :=
  World.ownsRow_made w #[] 0 (Nat.le_refl _) (by decide) rfl
theorem own_empty_l (w : World) : (w.alloc (.cells #[] 80)).ownsRow w.heap.size 80 2 (.slice (some ⟨w.heap.size, 0, none⟩) 0 0) 0 [] :=
  World.ownsRow_made w #[] 0 (Nat.le_refl _) (by decide) rfl
theorem rsC_all (l : List RSr) : ∀ u ∈ l.flatMap rsC, u.oneCell' = true := fun u hu => by
  obtain ⟨y, _, hy⟩ := List.mem_flatMap.1 hu
  exact rsC_one y u hy
theorem rsC_flat (l : List RSr) : (l.flatMap rsC).length = l.length * 2 := flat_len rsC_len l
/-- append of series onto a row of series. -/
theorem wpList_append_s {w : World} {ops : Array Oper} {rest : List Oper} {o : Oper} {a : Act} {Q : Exit → Act → World → Prop} (hgd : o.guard = none) (s x : Operand)
    (ho : o.op = .call { callee := .builtin .append, args := #[s, x], argTypes := #[32, 32] })
    (base : Nat) (v : Value) (xs : List RSr) (hs : a.eval s = v) (hown : w.ownsRow base 84 2 v xs.length (xs.flatMap rsC))
    (ad : Addr) (c : Nat) (ys : List RSr) (hx : a.eval x = .slice (some ad) ys.length c) (hy : Rd w (some ad) (ys.flatMap rsC))
    (hl : xs.length + ys.length ≤ 100000) (hbase : base ≤ w.heap.size)
    (h : ∀ A' c' w', w'.ownsRow base 84 2 (.slice A' (xs ++ ys).length c') (xs ++ ys).length ((xs ++ ys).flatMap rsC) → w.grownBy w' v.ownBlock → ((Value.slice A' (xs ++ ys).length c').ownBlock = v.ownBlock ∨ (Value.slice A' (xs ++ ys).length c').ownBlock = some w.heap.size) → wpList Tryz.prog ops Q rest (a.put o.dst (.slice A' (xs ++ ys).length c')) w') : wpList Tryz.prog ops Q (o :: rest) a w := by
  obtain ⟨i0, hi, hz0, hz1, hz2⟩ := info_parts infoSr
  refine wpList_append_own_at w hgd s x 32 ho base 84 i0 (.agg #[.int .u64 0, .slice none 0 0]) 2 32 Tryz.underlying32 hi hz0 hz1 hz2 rfl (by decide) v xs.length (xs.flatMap rsC) hs hown ad ys.length c (ys.flatMap rsC) hx (rsC_flat ys) (rd_cells hy) (rsC_all ys) (by unfold maxLen; omega) (by omega) hbase fun v' w' a b _ d => ?_
  rw [← List.flatMap_append, ← List.length_append] at a
  obtain ⟨A', c', rfl, -⟩ := own_rd_s a
  exact h A' c' w' a b d
/-- x[l:h] of series. -/
theorem run_slice_s (w : World) (A : Option Addr) (n c l h : Nat) (lo hi : Option Value) (hlo : lo = some (.int .i64 (l : Nat)) ∨ lo = none ∧ l = 0)
    (hhi : hi = some (.int .i64 (h : Nat)) ∨ hi = none ∧ h = n) (hl : l ≤ h) (hh : h ≤ c) :
    (Instr.sliceAt 32 (.slice A n c) lo hi none).run Tryz.prog w = .ok (.slice (if c = l then A else A.map (·.add (l * 2))) (h - l) (c - l)) w := by
  obtain ⟨i0, hi0, hz0, hz1, hz2⟩ := info_parts infoSr
  have b1 := fun cd => run_bound (P := Tryz.prog) w l h cd hl
  have b2 := fun cd => run_bound (P := Tryz.prog) w h c cd hh
  rcases hlo with rfl | ⟨rfl, rfl⟩ <;> rcases hhi with rfl | ⟨rfl, rfl⟩ <;>
      simp [Instr.sliceAt, Instr.slice, Instr.sliceBounds, run_underlying Tryz.underlying32, sizeOf, typeInfo, hi0, hz1, b1, b2]
theorem rsC_drop : ∀ (l : List RSr) (k : Nat), (l.drop k).flatMap rsC = (l.flatMap rsC).drop (k * 2)
  | l, 0 => by simp
  | [], k + 1 => by simp
  | x :: r, k + 1 => by
    rw [List.drop_succ_cons, rsC_drop r k, List.flatMap_cons, show (k + 1) * 2 = (rsC x).length + k * 2 by rw [rsC_len]; omega, List.drop_append]
    simp
theorem rsC_take : ∀ (l : List RSr) (k : Nat), (l.take k).flatMap rsC = (l.flatMap rsC).take (k * 2)
  | l, 0 => by simp
  | [], k + 1 => by simp
  | x :: r, k + 1 => by
    rw [List.take_succ_cons, List.flatMap_cons, rsC_take r k, List.flatMap_cons, show (k + 1) * 2 = (rsC x).length + k * 2 by rw [rsC_len]; omega, List.take_append, List.take_of_length_le (show (rsC x).length ≤ _ by omega)]
    simp
theorem add_s {w : World} {A : Option Addr} {l : List RSr} (h : Rd w A (l.flatMap rsC)) (k m : Nat) (hk : m = k → l.length ≤ m) : Rd w (if m = k then A else A.map (·.add (k * 2))) ((l.drop k).flatMap rsC) := by
  split
  · rename_i e
    rw [List.drop_eq_nil_of_le (by have := hk e; omega)]
    exact Rd.nil _ _
  · rw [rsC_drop]; exact h.drop (k * 2)
theorem slice_s_front (b off n c k : Nat) (hk : k ≤ c) (h0 : 0 < c) (W : World) : (Instr.sliceAt 32 (.slice (some ⟨b, off, none⟩) n c) none (some (.int .i64 (k : Nat))) none).run Tryz.prog W = .ok (.slice (some ⟨b, off, none⟩) k c) W := by
  have := run_slice_s W (some ⟨b, off, none⟩) n c 0 k none (some (.int .i64 (k : Nat))) (.inr ⟨rfl, rfl⟩) (.inl rfl) (Nat.zero_le _) hk
  rw [if_neg (by omega)] at this
  simpa [add_at] using this
theorem slice_s_back (b off n c k : Nat) (hk : k + 1 ≤ n) (hn : n ≤ c) : ∃ A' : Addr, (∀ W : World, (Instr.sliceAt 32 (.slice (some ⟨b, off, none⟩) n c) (some (.int .i64 ((k : Int) + 1))) none none).run Tryz.prog W = .ok (.slice (some A') (n - (k + 1)) (c - (k + 1))) W) ∧
    ∀ (W : World) (l : List RSr), l.length = n → Rd W (some ⟨b, off, none⟩) (l.flatMap rsC) → Rd W (some A') ((l.drop (k + 1)).flatMap rsC) := by
  have h1 := fun W => run_slice_s W (some ⟨b, off, none⟩) n c (k + 1) n (some (.int .i64 ((k + 1 : Nat) : Int))) none (.inl rfl) (.inr ⟨rfl, rfl⟩) hk hn
  have h2 := fun (W : World) (l : List RSr) (hl : l.length = n) (h : Rd W (some ⟨b, off, none⟩) (l.flatMap rsC)) => add_s h (k + 1) c (fun e => by omega)
  by_cases e : c = k + 1
  · simp only [if_pos e] at h1 h2
    exact ⟨_, fun W => by have := h1 W; rwa [Int.natCast_add] at this, h2⟩
  · simp only [if_neg e, Option.map_some] at h1 h2
    exact ⟨_, fun W => by have := h1 W; rwa [Int.natCast_add] at this, h2⟩
theorem cut_at {ys : List RSr} (hL : Wf (ys.map rsv)) {k : Nat} {y : RSr} (hy : ys[k]? = some y) : (ys.take k ++ ys.drop (k + 1)).map rsv = cutL (ys.map rsv) y.n := by
  obtain ⟨h1, h2⟩ := List.getElem?_eq_some_iff.1 hy
  have e : ys = ys.take k ++ y :: ys.drop (k + 1) := by
    rw [← h2, ← List.drop_eq_getElem_cons h1, List.take_append_drop]
  have hnd := hL.refs
  unfold cutL
  generalize ys.take k = a at e ⊢
  generalize ys.drop (k + 1) = b at e ⊢
  subst e
  rw [List.map_map, List.map_append, List.map_cons] at hnd
  have hn := List.perm_middle.nodup_iff.1 hnd
  rw [List.nodup_cons, List.mem_append] at hn
  rw [List.map_append, List.map_append, List.map_cons, List.filter_append, List.filter_cons, if_neg (by simp [rsv])]
  have hk : ∀ l : List RSr, (∀ x ∈ l, x ∈ a ∨ x ∈ b) → (l.map rsv).filter (fun s => !decide (s.1 = y.n)) = l.map rsv := fun l hl => by
    rw [List.filter_eq_self]
    intro s hs
    obtain ⟨x, hx, rfl⟩ := List.mem_map.1 hs
    have : ¬ x.n = y.n := fun e => hn.1 (by
      rcases hl x hx with h | h
      · exact .inl (List.mem_map.2 ⟨x, h, e⟩)
      · exact .inr (List.mem_map.2 ⟨x, h, e⟩))
    simp [rsv, this]
  rw [hk a fun x h => .inl h, hk b fun x h => .inr h]
theorem cut_noR {L : List Ser} {n : Nat} (h : refIn L n = false) : cutL L n = L := by
  unfold cutL
  rw [List.filter_eq_self]
  intro s hs
  have : ¬ s.1 = n := fun e => by
    have := refIn_iff.2 ⟨s, hs, e⟩
    rw [h] at this; cases this
  simp [this]
/-- What a change of the plain index comes to. -/
def RixOut (w : World) (p : Nat) (S : Nat → Prop) (L : List Ser) (w' : World) : Prop :=
  ∃ S' v' ys', RixE w' p S' v' ys' ∧ ys'.map rsv = L ∧ Mv S w w' ∧ ∀ k, S' k → S k ∨ w.heap.size ≤ k
theorem RixOut.same {w w' : World} {p : Nat} {S : Nat → Prop} {v : Value} {ys : List RSr} (h : RixE w p S v ys) (hb : Below w.heap.size w w') : RixOut w p S (ys.map rsv) w' :=
  ⟨S, v, ys, h.below hb, rfl, Mv.of_below hb _, fun k hk => .inl hk⟩
/-- A row of series laid in the index's box. -/
theorem RixE.laid {w w1 : World} {p : Nat} {S : Nat → Prop} {v v' : Value} {ys ys' : List RSr} (h : RixE w p S v ys) (hm : Mv (fun k => v.ownBlock = some k) w w1)
    (ho : w1.ownsRow 0 84 2 v' ys'.length (ys'.flatMap rsC)) (hv : ∀ k, v'.ownBlock = some k → v.ownBlock = some k ∨ w.heap.size ≤ k)
    (hat : ∀ y ∈ ys', y ∈ ys ∨ (Rd w1 y.A (lcells y.ls) ∧ ∀ k, y.A.map (·.block) = some k → w.heap.size ≤ k ∧ k < w1.heap.size ∧ v'.ownBlock ≠ some k))
    (hf : ys'.length ≤ 4096) (he : ∀ y ∈ ys', rightP y.ls = 0 ∧ y.n < 18446744073709551616) (L : List Ser) (hL : ys'.map rsv = L) :
    RixOut w p S L (w1.setCell ⟨p, 0, none⟩ v') := by
  have hpl := h.al p h.sp
  have hpv : v.ownBlock ≠ some p := own_blk h.row h.box (by decide)
  have hbx : w1.heap[p]? = some (.cells #[v] 34 (0, 0)) := (hm.block p hpl hpv).trans h.box
  have hkeep : ∀ k, k ≠ p → (w1.setCell ⟨p, 0, none⟩ v').heap[k]? = w1.heap[k]? := fun k hk => Below.heap_setCell _ _ _ _ hk
  have hnp : ∀ k, v'.ownBlock = some k → k ≠ p := fun k hk e => by
    rcases hv k hk with h1 | h1
    · exact hpv (e ▸ h1)
    · omega
  refine ⟨fun k => S k ∨ (w.heap.size ≤ k ∧ k < w1.heap.size), v', ys', ⟨?_, own_moved ho fun g hg => hkeep g (hnp g hg), fun y hy => ?_, .inl h.sp, fun k hk => ?_, fun y hy k hk => ?_, fun k hk => ?_, hf, he⟩, hL, ?_, fun k hk => ?_⟩
  · have := set_blk hbx 0 v'
    simpa using this
  · rcases hat y hy with hy | ⟨h1, h2⟩
    · exact (h.at_ y hy).blk fun b _ hb => (hkeep b (h.sl y hy b hb).2.1).trans (hm.block b (h.al b (h.sl y hy b hb).1) (h.sl y hy b hb).2.2)
    · exact h1.blk fun b _ hb => hkeep b fun e => by have := (h2 b hb).1; omega
  · rcases hv k hk with h1 | h1
    · exact .inl (h.sv k h1)
    · exact .inr ⟨h1, (ho.lt k hk).2⟩
  · rcases hat y hy with hy | ⟨h1, h2⟩
    · obtain ⟨s1, s2, s3⟩ := h.sl y hy k hk
      refine ⟨.inl s1, s2, fun e => ?_⟩
      rcases hv k e with h1 | h1
      · exact s3 h1
      · have := h.al k s1; omega
    · obtain ⟨a, b, c⟩ := h2 k hk
      exact ⟨.inr ⟨a, b⟩, by omega, c⟩
  · show k < _
    have hsz : (w1.setCell ⟨p, 0, none⟩ v').heap.size = w1.heap.size := by simp
    rw [hsz]
    rcases hk with hk | hk
    · exact Nat.lt_of_lt_of_le (h.al k hk) hm.size
    · exact hk.2
  · exact (hm.mono (T := S) fun i _ e => h.sv i e).setCell (p := ⟨p, 0, none⟩) (fun _ => h.sp) _
  · rcases hk with hk | hk
    · exact .inl hk
    · exact .inr hk.1
section
set_option maxHeartbeats 3200000
set_option maxRecDepth 100000
variable {w : World} {p : Nat} {S : Nat → Prop} {v : Value} {ys : List RSr}
theorem place_no (h : RixE w p S v ys) {n : Nat} (hn : n < 18446744073709551616) (hin : refIn (ys.map rsv) n = false) : Calls Tryz.prog 49 #[.pointer (some ⟨p, 0, none⟩), .int .u64 (n : Nat)] w fun e w' => e = .returned (.int .i64 (-1)) ∧ Below w.heap.size w w' := by
  refine (place_any h n hn).mono fun e w' ⟨h1, h2⟩ => ⟨?_, h2⟩
  rcases h1 with ⟨h1, _⟩ | ⟨k, y, hy, e, _⟩
  · exact h1
  · have : refIn (ys.map rsv) n = true := refIn_iff.2 ⟨rsv y, List.mem_map.2 ⟨y, List.mem_of_getElem? hy, rfl⟩, e⟩
    rw [hin] at this; cases this
theorem place_yes (h : RixE w p S v ys) {n : Nat} (hn : n < 18446744073709551616) (hin : refIn (ys.map rsv) n = true) : Calls Tryz.prog 49 #[.pointer (some ⟨p, 0, none⟩), .int .u64 (n : Nat)] w fun e w' => (∃ (k : Nat) (y : RSr), ys[k]? = some y ∧ y.n = n ∧ e = .returned (.int .i64 (k : Nat))) ∧ Below w.heap.size w w' := by
  refine (place_any h n hn).mono fun e w' ⟨h1, h2⟩ => ⟨?_, h2⟩
  rcases h1 with ⟨_, h1⟩ | h1
  · obtain ⟨s, hs, e⟩ := refIn_iff.1 hin
    obtain ⟨y, hy, rfl⟩ := List.mem_map.1 hs
    exact absurd e (h1 y hy)
  · exact h1
theorem rcut_any (h : RixE w p S v ys) (hL : Wf (ys.map rsv)) {n : Nat} (hn : n < 18446744073709551616) : Calls Tryz.prog 45 #[.pointer (some ⟨p, 0, none⟩), .int .u64 (n : Nat)] w fun e w' =>
    e = .returned (.int .i64 (cutC (ys.map rsv) n : Nat)) ∧ RixOut w p S (cutL (ys.map rsv) n) w' := by
  have hfew := h.few
  have hc0 := cell_blk h.box 0
  simp only [List.getElem?_toArray, List.getElem?_cons_succ, List.getElem?_cons_zero] at hc0
  cases hin : refIn (ys.map rsv) n with
  | false =>
    have hC : cutC (ys.map rsv) n = 101 := by unfold cutC; rw [hin]; rfl
    rw [hC, cut_noR hin]
    have HP := Lib.hid (place_no h hn hin)
    have HH := Lib.hid h
    clear h hL hin hC hc0
    go_enter Tryz.func45, Tryz.ntmps45
    go_wp2_with (first
      | (go_at_call 49; refine HP.out.mono ?_; rintro e w1 ⟨rfl, hb⟩; have HB := Lib.hid hb; clear hb)
      | fail)
    go_ret
    exact ⟨rfl, RixOut.same HH.out HB.out⟩
  | true =>
    have hC : cutC (ys.map rsv) n = 0 := by unfold cutC; rw [hin]; rfl
    rw [hC]
    have HP := Lib.hid (place_yes h hn hin)
    have HH := Lib.hid h
    have HL := Lib.hid hL
    have hpl := blk_lt h.box
    obtain ⟨B, cb, hv, hr, hc1, hc2⟩ := own_rd_s h.row
    subst hv
    unfold maxLen at hc2
    have HR := Lib.hid hr
    clear h hL hin hC hc0 hr
    go_enter Tryz.func45, Tryz.ntmps45
    go_wp2_with (first
      | (go_at_call 49; refine HP.out.mono ?_; rintro e w1 ⟨⟨k, y, hy, hyn, rfl⟩, hb⟩
         obtain ⟨hlt, -⟩ := List.getElem?_eq_some_iff.1 hy
         have k0 : (0 : Int) ≤ (k : Int) := by omega
         have k9 : ¬ (k : Int) < 0 := by omega
         have k1 : (k : Int) < (ys.length : Int) := by omega
         obtain ⟨b, off, rfl, -⟩ := (HR.out.below hb).flat rsC_len (by decide) hy
         have hbx := (hb.block p hpl).trans HH.out.box
         have c0 := cell_blk hbx 0
         have c0' := cell_blk ((Below.heap_alloc w1 (.cells #[] 84) p (Nat.lt_of_lt_of_le hpl hb.size)).trans hbx) 0
         simp only [List.getElem?_toArray, List.getElem?_cons_succ, List.getElem?_cons_zero] at c0 c0'
         have hs1 := slice_s_front b off ys.length cb k (by omega) (by omega)
         obtain ⟨A2, hs2, hs3⟩ := slice_s_back b off ys.length cb k (by omega) hc1
         have HS3 := Lib.hid hs3
         have HY := Lib.hid hy; have HYN := Lib.hid hyn; have HB := Lib.hid hb; have HBX := Lib.hid hbx
         have hkl : (ys.take k).length = k := by rw [List.length_take]; omega
         have hdl : (ys.drop (k + 1)).length = ys.length - (k + 1) := List.length_drop
         have HKL := Lib.hid hkl; have HDL := Lib.hid hdl
         clear hy hyn hb hbx hs3 hkl hdl)
      | (at_builtin
         refine wpList_append_s rfl (.tmp 13) (.tmp 19) rfl w1.heap.size _ [] rfl (own_empty_s w1) ⟨b, off, none⟩ cb (ys.take k) (by rw [HKL.out]; rfl) (by rw [rsC_take]; exact ((HR.out.below HB.out).alloc _).take _) (by rw [HKL.out]; simp; omega) (by simp) ?_
         intro A3 c3 w3 own3 grow3 at3
         rw [List.nil_append, HKL.out] at own3
         rw [List.nil_append, HKL.out]
         have hb3 : Below w1.heap.size w1 w3 := ((Below.refl _ w1).alloc (Nat.le_refl _) _).grown grow3 (by simp) (fun g hg => ((own_empty_s w1).lt g hg).1)
         have hbx3 := (hb3.block p (Nat.lt_of_lt_of_le hpl HB.out.size)).trans HBX.out
         have c3' := cell_blk hbx3 0
         simp only [List.getElem?_toArray, List.getElem?_cons_succ, List.getElem?_cons_zero] at c3'
         have HO3 := Lib.hid own3; have HB3 := Lib.hid hb3; have HBX3 := Lib.hid hbx3
         clear own3 grow3 at3 hb3 hbx3 c0')
      | (at_builtin
         refine wpList_append_s rfl (.tmp 22) (.tmp 29) rfl w1.heap.size (.slice A3 k c3) (ys.take k) rfl (by rw [HKL.out]; exact HO3.out) A2 (cb - (k + 1)) (ys.drop (k + 1)) (by rw [HDL.out]; rfl) (HS3.out w3 ys rfl (((HR.out.below HB.out)).below HB3.out)) (by rw [HKL.out, HDL.out]; omega) HB3.out.size ?_
         intro A4 c4 w4 own4 grow4 at4
         obtain ⟨N, hN⟩ : ∃ N, N = (ys.take k ++ ys.drop (k + 1)).length := ⟨_, rfl⟩
         rw [← hN]
         have HN := Lib.hid hN
         clear hN
         have hb4 : Below w1.heap.size w1 w4 := HB3.out.grown grow4 HB3.out.size (fun g hg => (HO3.out.lt g hg).1)
         have hbx4 := (hb4.block p (Nat.lt_of_lt_of_le hpl HB.out.size)).trans HBX.out
         have c4' := cell_blk hbx4 0
         simp only [List.getElem?_toArray, List.getElem?_cons_succ, List.getElem?_cons_zero] at c4'
         have q4 := free_blk hbx4 0
         have HO4 := Lib.hid own4; have HB4 := Lib.hid hb4; have HBX4 := Lib.hid hbx4
         clear own4 grow4 at4 hb4 hbx4)
      | fail)
    go_ret
    have hb9 : Below w.heap.size w w4 := HB.out.trans (HB4.out.mono HB.out.size)
    have hcut := cut_at HL.out HY.out
    rw [HYN.out] at hcut
    rw [HN.out]
    refine ⟨rfl, HH.out.laid (Mv.of_below hb9 _) (HO4.out.lower (Nat.zero_le _)) (fun g hg => .inr (Nat.le_trans HB.out.size (HO4.out.lt g hg).1)) (fun y hy => .inl ?_) ?_ (fun y hy => HH.out.each y ?_) _ hcut⟩
    · rcases List.mem_append.1 hy with h | h
      · exact List.mem_of_mem_take h
      · exact List.mem_of_mem_drop h
    · rw [List.length_append, HKL.out, HDL.out]; omega
    · rcases List.mem_append.1 hy with h | h
      · exact List.mem_of_mem_take h
      · exact List.mem_of_mem_drop h
theorem radd_any (h : RixE w p S v ys) {n : Nat} (hn : n < 18446744073709551616) (A : Option Addr) (c : Nat) (l : List Lb) (hx : Rd w A (lcells l)) (hf : Few l) : Calls Tryz.prog 46 #[.pointer (some ⟨p, 0, none⟩), .int .u64 (n : Nat), .slice A l.length c] w fun e w' =>
    e = .returned (.int .i64 (addC (ys.map rsv) n l : Nat)) ∧ RixOut w p S (addL (ys.map rsv) n l) w' := by
  have hfew := h.few
  have hR := rright_any A c l w hx hf
  by_cases h0 : rightP l = 0
  · rw [h0] at hR
    have hlf : l.length ≤ 16 := (right_parts h0).1
    have HRI := Lib.hid hR
    have HH := Lib.hid h
    have HX := Lib.hid hx
    have HR0 := Lib.hid h0
    have hpl := blk_lt h.box
    have hrf := fun (W : World) (hb : Below w.heap.size w W) => rref_any (h.below hb) A c l (hx.below hb) (by omega)
    obtain ⟨C, hC⟩ : ∃ C, C = addC (ys.map rsv) n l := ⟨_, rfl⟩
    have hCd := hC
    unfold addC at hCd
    rw [if_neg (by omega), List.length_map] at hCd
    rw [← hC]
    cases hlb : labIn (ys.map rsv) l with
    | true =>
      rw [hlb, Bool.or_true, if_pos rfl] at hCd
      have hL' : addL (ys.map rsv) n l = ys.map rsv := by unfold addL; rw [← hC, hCd, if_neg (by decide)]
      rw [hL', hCd]
      obtain ⟨m, hm⟩ : ∃ m, refAt (ys.map rsv) l = some m := by
        cases hr : refAt (ys.map rsv) l with
        | none => rw [refAt_none, hlb] at hr; cases hr
        | some m => exact ⟨m, rfl⟩
      rw [hm] at hrf
      have HRF := Lib.hid hrf
      clear h hx hf hrf hC hCd hL' hR h0 hlb hm
      go_enter Tryz.func46, Tryz.ntmps46
      go_wp2_with (first
        | (go_at_call 39; refine HRI.out.mono ?_; rintro e w1 ⟨rfl, hb⟩; have HB := Lib.hid hb; clear hb)
        | (go_at_call 20; refine (HRF.out _ HB.out).mono ?_; rintro e w2 ⟨rfl, hb2⟩; have HB2 := Lib.hid (HB.out.trans (hb2.mono HB.out.size)); clear hb2)
        | fail)
      go_ret
      exact ⟨rfl, RixOut.same HH.out HB2.out⟩
    | false =>
      rw [hlb, Bool.or_false] at hCd
      have hm : refAt (ys.map rsv) l = none := refAt_none.2 hlb
      rw [hm] at hrf
      have HRF := Lib.hid hrf
      cases hin : refIn (ys.map rsv) n with
      | true =>
        rw [hin, if_pos rfl] at hCd
        have hL' : addL (ys.map rsv) n l = ys.map rsv := by unfold addL; rw [← hC, hCd, if_neg (by decide)]
        rw [hL', hCd]
        have HPL := Lib.hid (fun (W : World) (hb : Below w.heap.size w W) => place_yes (HH.out.below hb) hn hin)
        clear h hx hf hrf hC hCd hL' hR h0 hlb hm hin
        go_enter Tryz.func46, Tryz.ntmps46
        go_wp2_with (first
          | (go_at_call 39; refine HRI.out.mono ?_; rintro e w1 ⟨rfl, hb⟩; have HB := Lib.hid hb; clear hb)
          | (go_at_call 20; refine (HRF.out _ HB.out).mono ?_; rintro e w2 ⟨rfl, hb2⟩; have HB2 := Lib.hid (HB.out.trans (hb2.mono HB.out.size)); clear hb2)
          | (go_at_call 49; refine (HPL.out _ HB2.out).mono ?_; rintro e w3 ⟨⟨k, y, -, -, rfl⟩, hb3⟩
             have k0 : (0 : Int) ≤ (k : Int) := by omega
             have HB3 := Lib.hid (HB2.out.trans (hb3.mono HB2.out.size)); clear hb3)
          | fail)
        go_ret
        exact ⟨rfl, RixOut.same HH.out HB3.out⟩
      | false =>
        rw [hin, if_neg (by decide)] at hCd
        have HPL := Lib.hid (fun (W : World) (hb : Below w.heap.size w W) => place_no (HH.out.below hb) hn hin)
        obtain ⟨B, cb, hv, hr, hc1, hc2⟩ := own_rd_s h.row
        unfold maxLen at hc2
        by_cases hfull : ys.length = 4096
        · rw [if_pos hfull] at hCd
          have hL' : addL (ys.map rsv) n l = ys.map rsv := by unfold addL; rw [← hC, hCd, if_neg (by decide)]
          rw [hL', hCd]
          have g1 : (4096 : Int) ≤ (ys.length : Int) := by omega
          clear h hx hf hrf hC hCd hL' hR h0 hlb hm hin hr
          go_enter Tryz.func46, Tryz.ntmps46
          go_wp2_with (first
            | (go_at_call 39; refine HRI.out.mono ?_; rintro e w1 ⟨rfl, hb⟩; have HB := Lib.hid hb; clear hb)
            | (go_at_call 20; refine (HRF.out _ HB.out).mono ?_; rintro e w2 ⟨rfl, hb2⟩; have HB2 := Lib.hid (HB.out.trans (hb2.mono HB.out.size)); clear hb2)
            | (go_at_call 49; refine (HPL.out _ HB2.out).mono ?_; rintro e w3 ⟨rfl, hb3⟩
               have HB3 := Lib.hid (HB2.out.trans (hb3.mono HB2.out.size)); clear hb3
               have c0 := cell_blk ((HB3.out.block p hpl).trans HH.out.box) 0
               simp only [List.getElem?_toArray, List.getElem?_cons_succ, List.getElem?_cons_zero] at c0
               rw [hv] at c0)
            | fail)
          go_ret
          exact ⟨rfl, RixOut.same HH.out HB3.out⟩
        · rw [if_neg hfull] at hCd
          have hL' : addL (ys.map rsv) n l = ys.map rsv ++ [(n, l)] := by unfold addL; rw [← hC, if_pos hCd]
          rw [hL', hCd]
          have g1 : ¬ (4096 : Int) ≤ (ys.length : Int) := by omega
          have HV := Lib.hid hv
          clear h hx hf hrf hC hCd hL' hR h0 hlb hm hin hr hv
          go_enter Tryz.func46, Tryz.ntmps46
          go_wp2_with (first
            | (go_at_call 39; refine HRI.out.mono ?_; rintro e w1 ⟨rfl, hb⟩; have HB := Lib.hid hb; clear hb)
            | (go_at_call 20; refine (HRF.out _ HB.out).mono ?_; rintro e w2 ⟨rfl, hb2⟩; have HB2 := Lib.hid (HB.out.trans (hb2.mono HB.out.size)); clear hb2)
            | (go_at_call 49; refine (HPL.out _ HB2.out).mono ?_; rintro e w3 ⟨rfl, hb3⟩
               have HB3 := Lib.hid (HB2.out.trans (hb3.mono HB2.out.size)); clear hb3
               have c0 := cell_blk ((HB3.out.block p hpl).trans HH.out.box) 0
               simp only [List.getElem?_toArray, List.getElem?_cons_succ, List.getElem?_cons_zero] at c0
               rw [HV.out] at c0)
            | (at_builtin
               refine wpList_append_lb rfl (.tmp 36) (.tmp 37) rfl rfl w3.heap.size _ [] rfl (own_empty_l w3) A c l rfl ((HX.out.below HB3.out).alloc _) (by simp; omega) (by simp) ?_
               intro v4 w4 own4 grow4
               rw [List.nil_append] at own4
               obtain ⟨A4, c4, hv4, -⟩ := own_rdL own4
               subst hv4
               have hb4 : Below w3.heap.size w3 w4 := ((Below.refl _ w3).alloc (Nat.le_refl _) _).grown grow4 (by simp) (fun g hg => ((own_empty_l w3).lt g hg).1)
               have hbx4 := (hb4.block p (Nat.lt_of_lt_of_le hpl HB3.out.size)).trans ((HB3.out.block p hpl).trans HH.out.box)
               have c4' := cell_blk hbx4 0
               simp only [List.getElem?_toArray, List.getElem?_cons_succ, List.getElem?_cons_zero] at c4'
               rw [HV.out] at c4'
               have HO4 := Lib.hid own4; have HB4 := Lib.hid hb4; have HBX4 := Lib.hid hbx4
               clear own4 grow4 hb4 hbx4 c0)
            | (at_builtin
               refine wpList_append_s rfl (.tmp 43) (.tmp 47) rfl 0 (.slice B ys.length cb) ys rfl (by rw [← HV.out]; exact own_moved HH.out.row fun g hg => by have hgl := (HH.out.row.lt g hg).2; exact (Below.heap_alloc _ _ _ (Nat.lt_of_lt_of_le hgl (Nat.le_trans HB3.out.size HB4.out.size))).trans ((HB4.out.block g (Nat.lt_of_lt_of_le hgl HB3.out.size)).trans (HB3.out.block g hgl))) ⟨w4.heap.size, 0, none⟩ 1 [⟨n, l, A4, c4⟩] rfl (rd_row w4 (rsC ⟨n, l, A4, c4⟩) 84) (by simp; omega) (Nat.zero_le _) ?_
               intro A5 c5 w5 own5 grow5 at5
               obtain ⟨N, hN⟩ : ∃ N, N = (ys ++ [(⟨n, l, A4, c4⟩ : RSr)]).length := ⟨_, rfl⟩
               rw [← hN] at at5 ⊢
               have HN := Lib.hid hN
               clear hN
               have hpv : v.ownBlock ≠ some p := own_blk HH.out.row HH.out.box (by decide)
               rw [HV.out] at hpv
               have hm5 : Mv (fun k => (Value.slice B ys.length cb).ownBlock = some k) w w5 := ((Mv.of_below (HB3.out.trans (HB4.out.mono HB3.out.size)) _).alloc _).grown grow5 fun k _ e => e
               have hbx5 := (hm5.block p hpl hpv).trans HH.out.box
               have c5' := cell_blk hbx5 0
               simp only [List.getElem?_toArray, List.getElem?_cons_succ, List.getElem?_cons_zero] at c5'
               have q5 := free_blk hbx5 0
               have HO5 := Lib.hid own5; have HM5 := Lib.hid hm5; have HBX5 := Lib.hid hbx5; have HAT5 := Lib.hid at5; have HG5 := Lib.hid grow5
               clear own5 grow5 hm5 hbx5 at5 hpv)
            | fail)
          go_ret
          have hat5 := HAT5.out
          rw [HN.out] at hat5 ⊢
          have hsz4 := HB4.out.size
          have hsz3 := HB3.out.size
          have hvl : ∀ k, (Value.slice B ys.length cb).ownBlock = some k → k < w.heap.size := fun k e => (HH.out.row.lt k (by rw [HV.out]; exact e)).2
          have hkeep : ∀ k : Nat, k < w4.heap.size → w3.heap.size ≤ k → w5.heap[k]? = w4.heap[k]? := fun k h1 h2 => (HG5.out.block k (by simp; omega) (fun e => by have := hvl k e.symm; omega)).trans (Below.heap_alloc _ _ _ h1)
          have hA4 : ∀ k, A4.map (·.block) = some k → w3.heap.size ≤ k ∧ k < w4.heap.size := fun k hk => by
            rcases HO4.out.2 with ⟨e, _⟩ | ⟨g, cap, cur, e, hB, hg, _⟩
            · injection e with e; rw [e] at hk; cases hk
            · injection e with e; rw [e] at hk; injection hk with hk; subst hk; exact ⟨hB, blk_lt hg⟩
          obtain ⟨A4', c4', e4, hr4⟩ := own_rdL HO4.out
          injection e4 with e4
          subst e4
          refine ⟨rfl, HH.out.laid (by rw [HV.out]; exact HM5.out) HO5.out (fun k hk => ?_) (fun y hy => ?_) (by simp; omega) (fun y hy => ?_) _ (by simp [rsv])⟩
          · rcases hat5 with e | e
            · rw [e] at hk; exact .inl (by rw [HV.out]; exact hk)
            · rw [e] at hk; injection hk with hk; simp at hk; exact .inr (by omega)
          · rcases List.mem_append.1 hy with hy | hy
            · exact .inl hy
            · refine .inr ?_
              rw [List.mem_singleton.1 hy]
              refine ⟨hr4.blk fun b hb hk => hkeep b hb (hA4 b hk).1, fun k hk => ?_⟩
              obtain ⟨a1, a2⟩ := hA4 k hk
              refine ⟨by omega, Nat.lt_of_lt_of_le a2 (by have := HG5.out.size; simp at this; omega), fun e => ?_⟩
              rcases hat5 with e5 | e5
              · rw [e5] at e; have := hvl k e; omega
              · rw [e5] at e; injection e with e; simp at e; omega
          · rcases List.mem_append.1 hy with hy | hy
            · exact HH.out.each y hy
            · rw [List.mem_singleton.1 hy]; exact ⟨HR0.out, hn⟩
  · have hC : addC (ys.map rsv) n l = rightP l := by unfold addC; rw [if_pos h0]
    have hL' : addL (ys.map rsv) n l = ys.map rsv := by unfold addL; rw [hC, if_neg h0]
    rw [hC, hL']
    have HRI := Lib.hid hR
    have HH := Lib.hid h
    have g0 : ((rightP l : Int) != 0) = true := by rw [bne_iff_ne]; omega
    clear h hx hf hC hL' hR
    generalize rightP l = r at HRI g0 h0
    go_enter Tryz.func46, Tryz.ntmps46
    go_wp2_with (first
      | (go_at_call 39; refine HRI.out.mono ?_; rintro e w1 ⟨rfl, hb⟩; have HB := Lib.hid hb; clear hb)
      | fail)
    go_ret
    exact ⟨rfl, RixOut.same HH.out HB.out⟩
end
end
end Go.Proofs.YtjgappbomohlcaaGreatDoor
