/-
  The plain answers' disk: Crash.
-/
import Derived.Test.YtnmbjhpecblioaaZfi
import Derived.Test.YtnmbjhpecblioaaDc
namespace Go.Proofs.Ytnmbjhpecblioaa
set_option linter.unusedVariables false
set_option linter.unusedSimpArgs false
open Go.RowKit
theorem crash_next {keep : Int} {L : List Fl} {k : Nat} {f : Fl} (h : L[k]? = some f) : crashD keep (L.take (k + 1)) = crashD keep (L.take k) ++ (crashF keep f).toList := by
  obtain ⟨h1, h2⟩ := List.getElem?_eq_some_iff.1 h
  unfold crashD
  rw [List.take_succ_eq_append_getElem h1, h2, List.filterMap_append]
  cases hc : crashF keep f <;> simp [hc]
theorem crash_sum (keep : Int) : ∀ L : List Fl, lenL (crashD keep L) ≤ lenL L ∧ (crashD keep L).length ≤ L.length
  | [] => ⟨Nat.le_refl _, Nat.le_refl _⟩
  | f :: r => by
    obtain ⟨h1, h2⟩ := crash_sum keep r
    unfold crashD at h1 h2 ⊢
    rw [List.filterMap_cons]
    cases hc : crashF keep f with
    | none => simp only [lenL_cons, List.length_cons]; exact ⟨by omega, by omega⟩
    | some g =>
      have hg : g.2.1.length ≤ f.2.1.length := by
        unfold crashF at hc
        split at hc
        · cases hc
        · injection hc with hc; subst hc; rw [List.length_take]; exact Nat.min_le_right _ _
      simp only [lenL_cons, List.length_cons]; exact ⟨by omega, by omega⟩
theorem step_append_f {w : World} {ops : Array Oper} {o : Oper} {a : Act} {K : Act → World → Prop} {Q : Exit → Act → World → Prop} {E : Prop} (hgd : o.guard = none) (s x : Operand)
    (ho : o.op = .call { callee := .builtin .append, args := #[s, x], argTypes := #[29, 29] })
    (base : Nat) (v : Value) (xs : List RF) (hs : a.eval s = v) (hown : w.ownsRow base 66 3 v xs.length (xs.flatMap fcells))
    (ad : Addr) (c : Nat) (y : RF) (hx : a.eval x = .slice (some ad) 1 c) (hy : Rd w (some ad) (fcells y)) (h1 : ∀ u ∈ fcells y, u.oneCell' = true)
    (hl : xs.length ≤ 1000) (hbase : base ≤ w.heap.size)
    (h : ∀ v' w', w'.ownsRow base 66 3 v' (xs ++ [y]).length ((xs ++ [y]).flatMap fcells) → w.grownBy w' v.ownBlock → K (a.put o.dst v') w') : if Region.wanted o (yielded ops a.tmps) = true then Oper.wp Try.prog o a w K Q else E := by
  have hw : Region.wanted o (yielded ops a.tmps) = true := by simp [Region.wanted, hgd]
  rw [if_pos hw]
  obtain ⟨i0, hi, hz0, hz1, hz2⟩ := info_parts infoRF
  rw [List.length_append, List.flatMap_append, List.flatMap_singleton] at h
  unfold Oper.wp execOp
  obtain ⟨v', w', hrun, r1, r2, _⟩ := run_append_own (P := Try.prog) w base 29 o.type 66 i0 (.agg #[.string ⟨#[]⟩, .slice none 0 0, .int .i64 0]) 3 48 Try.underlying29 hi hz0 hz1 hz2 rfl (by decide) v xs.length (xs.flatMap fcells) hown ad 1 c (fcells y) rfl (rd_cells hy) h1 (by unfold maxLen; omega) (by omega) hbase
  simp only [ho, resolve, invoke, builtin, Sem.run_bind, Sem.run_pure, Result.andThen_ok, List.map_toArray, List.map_cons, List.map_nil, hs, hx, hrun]
  exact h v' w' r1 r2
/-- What is left so far. -/
structure Left (w wr : World) (v : Value) (acc : List RF) (M : List Fl) : Prop where
  row : wr.ownsRow w.heap.size 66 3 v acc.length (acc.flatMap fcells)
  val : acc.map rval = M
  at_ : ∀ z ∈ acc, BytesAt wr z.v z.bs ∧ ∀ g, z.v.ownBlock = some g → w.heap.size ≤ g
  each : ∀ z ∈ acc, z.n ≤ z.bs.length ∧ z.nm.size ≤ 32
  low : Below w.heap.size w wr
theorem Left.below {w wr wr' : World} {v : Value} {acc : List RF} {M : List Fl} (h : Left w wr v acc M) (hb : Below wr.heap.size wr wr') : Left w wr' v acc M :=
  ⟨own_below_f h.row hb, h.val, fun z hz => ⟨(h.at_ z hz).1.moved fun g hg => hb.block g ((h.at_ z hz).1.lt hg), (h.at_ z hz).2⟩, h.each, h.low.trans (hb.mono h.low.size)⟩
theorem Left.next {w w6 w4 : World} {v v4 : Value} {acc : List RF} {M M' : List Fl} {y' : RF} (h : Left w w6 v acc M) (o : Obj) (ho : w4.ownsRow w.heap.size 66 3 v4 (acc ++ [y']).length ((acc ++ [y']).flatMap fcells)) (hg : (w6.alloc o).grownBy w4 v.ownBlock)
    (hb : BytesAt w6 y'.v y'.bs) (hlow : ∀ g, y'.v.ownBlock = some g → w.heap.size ≤ g) (he : y'.n ≤ y'.bs.length ∧ y'.nm.size ≤ 32) (hM : M' = M ++ [rval y']) : Left w w4 v4 (acc ++ [y']) M' := by
  have ha := h.below ((Below.refl _ w6).alloc (Nat.le_refl _) o)
  have mvd : ∀ z : RF, BytesAt w6 z.v z.bs → BytesAt w4 z.v z.bs := fun z hz => by
    have h2 : BytesAt (w6.alloc o) z.v z.bs := hz.moved fun g hg => Below.heap_alloc _ _ _ (hz.lt hg)
    exact h2.moved fun g hg' => by
      obtain ⟨cs, hcs⟩ := h2.blk hg'
      exact hg.block g (h2.lt hg') (fun e => own_blk ha.row hcs (by decide) e.symm)
  refine ⟨ho, by rw [List.map_append, h.val, hM]; rfl, fun z hz => ?_, fun z hz => ?_, Below.grown ha.low hg ha.low.size (fun k hk => (ha.row.lt k hk).1)⟩
  · rcases List.mem_append.1 hz with hz | hz
    · exact ⟨mvd z (h.at_ z hz).1, (h.at_ z hz).2⟩
    · rw [List.mem_singleton] at hz; subst hz; exact ⟨mvd _ hb, hlow⟩
  · rcases List.mem_append.1 hz with hz | hz
    · exact h.each z hz
    · rw [List.mem_singleton] at hz; subst hz; exact he
section
set_option maxHeartbeats 1600000
set_option maxRecDepth 100000
variable {w : World} {p room : Nat} {fv : Value} {ys : List RF}
theorem rcrash_any (h : RefE w p room fv ys) (keep : Int) : Calls Try.prog 32 #[.pointer (some ⟨p, 0, none⟩), .int .i64 keep] w fun e w' => e = .returned (.tuple #[]) ∧ ∃ ys', ys'.map rval = crashD keep (ys.map rval) ∧ RefOut w p room fv ys ys' (fun _ => False) w' := by
  have hl := h.fits.2.2
  have H := Lib.hid h
  have hpl := blk_lt h.box
  have hB : ∀ W', Below w.heap.size w W' → W'.heap[p]? = some (.cells #[.int .i64 (room : Nat), fv] 31 (0, 0)) := fun W' hb => (hb.block p hpl).trans h.box
  have HB := Lib.hid hB
  obtain ⟨A, c, rfl, hr, hc1, hc2⟩ := own_rd_f h.row
  unfold maxLen at hc2
  have HR := Lib.hid hr
  have c0 := cell_blk h.box 0; have c1 := cell_blk h.box 1
  simp only [List.getElem?_toArray, List.getElem?_cons_succ, List.getElem?_cons_zero] at c0 c1
  have c1' : (w.alloc (.cells #[] 66)).cell? ⟨p, 1, none⟩ = some (.slice A ys.length c) := by
    have := cell_blk (((Below.refl _ w).alloc (Nat.le_refl _) (.cells #[] 66)).block p hpl |>.trans h.box) 1
    simpa using this
  clear hr h hB
  go_enter Try.func32, Try.ntmps32
  go_wp2
  go_loopw [4, 14] (fun s4 s14 wr => ∃ k : Nat, s14 = .int .i64 k ∧ k ≤ ys.length ∧ (∃ A' n' c', s4 = .slice A' n' c') ∧ Aside (∃ acc, Left w wr s4 acc (crashD keep ((ys.map rval).take k)))) (fun _ s14 _ => ys.length - (intOf s14).toNat)
  case atStart => exact ⟨0, rfl, by omega, ⟨_, _, _, rfl⟩, ⟨[], own_empty_f w, rfl, fun z hz => by simp at hz, fun z hz => by simp at hz, (Below.refl _ w).alloc (Nat.le_refl _) _⟩⟩
  case round =>
    obtain ⟨k, rfl, hk, ⟨A', n', c', rfl⟩, LA⟩ := hrel
    have k0 : (0 : Int) ≤ (k : Int) := by omega
    by_cases hlt : k < ys.length
    · have k1 : (k : Int) < (ys.length : Int) := by omega
      have k2 : (k : Int) ≤ (c : Int) := by omega
      obtain ⟨acc, hla⟩ := LA.out
      have BW := hla.low
      obtain ⟨y, hy⟩ : ∃ y, ys[k]? = some y := ⟨_, List.getElem?_eq_getElem hlt⟩
      obtain ⟨b, off, rfl, hcl⟩ := (HR.out.below BW).flat fcells_len (by decide) hy
      have d0 := hcl 0 _ rfl; have d1 := hcl 1 _ rfl; have d2 := hcl 2 _ rfl
      rw [Nat.add_zero] at d0
      have hyb := (H.out.below BW).at_ y (List.mem_of_getElem? hy)
      have hye := H.out.each y (List.mem_of_getElem? hy)
      have hyl : y.bs.length ≤ 16777216 := by
        have := lenL_take (L := ys.map rval) (k := k) (f := rval y) (by rw [List.getElem?_map, hy]; rfl)
        have h3 := lenL_take_le (ys.map rval) (k + 1)
        have h4 : (rval y).2.1.length = y.bs.length := rfl
        have := H.out.fits.1; have := H.out.fits.2.1
        omega
      have hnx := crash_next (keep := keep) (L := ys.map rval) (k := k) (f := rval y) (by rw [List.getElem?_map, hy]; rfl)
      have hac : acc.length ≤ 64 := by
        have a1 := crash_sum keep ((ys.map rval).take k)
        have a2 : acc.length = (crashD keep ((ys.map rval).take k)).length := by rw [← hla.val, List.length_map]
        have a3 : ((ys.map rval).take k).length ≤ k := by rw [List.length_take]; omega
        omega
      obtain ⟨q2, q3⟩ := left_nat (keep := keep) hye.1
      have hdef : leftD keep (rval y) = y.n + min keep.toNat (y.bs.length - y.n) := rfl
      obtain ⟨j, hj⟩ : ∃ j, j = min keep.toNat (y.bs.length - y.n) := ⟨_, rfl⟩
      obtain ⟨K, hK⟩ : ∃ K, K = keep.toNat := ⟨_, rfl⟩
      obtain ⟨N, hN⟩ : ∃ N, N = y.n + j := ⟨_, rfl⟩
      rw [← hj] at q3 hdef
      rw [← hN] at hdef
      rw [← hK] at q2 q3
      have hNl : N ≤ y.bs.length := by omega
      have hcr : crashF keep (rval y) = if N = 0 then none else some (y.nm, y.bs.take N, N) := by unfold crashF; rw [hdef]; rfl
      obtain ⟨Ay, cy, hyv, hyr, hycap, -⟩ := hyb.rd
      rw [hyv] at d1
      obtain ⟨m, hm⟩ : ∃ m, m = y.bs.length := ⟨_, rfl⟩
      rw [← hm] at d1 hyv hycap q3 hNl hyl
      have q1 : IntKind.i64.wrap ((m : Int) - (y.n : Int)) = (m : Int) - (y.n : Int) := IntWalk.i64_in _ (by omega)
      have q4 : IntKind.i64.wrap ((y.n : Int) + (j : Int)) = (N : Int) := by rw [IntWalk.i64_in _ (by omega)]; omega
      have q5 : (y.n : Int) + (j : Int) = (N : Int) := by omega
      have HLA := Lib.hid hla; have HNX := Lib.hid hnx; have HCR := Lib.hid hcr; have HM := Lib.hid hm; have HYR := Lib.hid hyr; have HYE := Lib.hid hye
      have hb1 : Below wr.heap.size wr (wr.alloc (.cells #[.string y.nm, .slice Ay m cy, .int .i64 (y.n : Nat)] 66)) := (Below.refl _ wr).alloc (Nat.le_refl _) _
      have HL1 := Lib.hid (hla.below hb1)
      clear hcl hy hyb hyv hyr hla BW hb1 hnx hcr hdef hm hj hK hye
      by_cases hz : N = 0
      · rw [hz] at q4 q5
        have HZ := Lib.hid hz; clear hz hN
        go_wp2
        go_roundw
        case rel => exact ⟨k + 1, by go_num, by omega, ⟨_, _, _, rfl⟩, (show Aside _ from ⟨acc, by rw [HNX.out, HCR.out, if_pos HZ.out]; simpa using HL1.out⟩)⟩
        case measure => simp [intOf]; omega
      · have hz' : (0 : Int) < (N : Int) := by omega
        have q6 : IntKind.i64.wrap (N : Int) = (N : Int) := IntWalk.i64_in _ (by omega)
        have HN := Lib.hid hN; clear hN
        have hlt2 : (y.bs.take N).length = N := by rw [List.length_take, ← HM.out]; omega
        have HLT := Lib.hid hlt2
        have n2 : (N : Int) ≤ (m : Int) := by omega
        have n3 : (N : Int) ≤ (cy : Int) := by omega
        have hj : ∀ (W : World) (R c' : Nat), Below wr.heap.size wr W → W.heap[R]? = some (.cells #[.slice Ay N c'] 33 (0, 0)) → Calls Try.prog 24 #[.slice (some ⟨R, 0, none⟩) 1 1] W fun e w' => ∃ A6 c6, e = .returned (.slice A6 N c6) ∧ w'.ownsRow W.heap.size 5 1 (.slice A6 N c6) N ((y.bs.take N).map Bv) ∧ Below W.heap.size W w' := fun W R c' hb hr => by
          have hP : ∀ q ∈ [(Ay, c', y.bs.take N)], Rd W q.1 (q.2.2.map Bv) := fun q hq => by
            rw [List.mem_singleton] at hq
            subst hq
            have := (HYR.out.below hb).take N
            rwa [← List.map_take] at this
          have hS : Rd W (some ⟨R, 0, none⟩) ([(Ay, c', y.bs.take N)].map partV) := fun j v hv => by
            refine ⟨R, 0, rfl, ?_⟩
            rw [cell_blk hr, Nat.zero_add]
            simpa [partV, hlt2, List.length_take, ← HM.out, Nat.min_eq_left hNl] using hv
          have hjl : joined [(Ay, c', y.bs.take N)] = y.bs.take N := by simp [joined]
          refine (join_any W (some ⟨R, 0, none⟩) 1 [(Ay, c', y.bs.take N)] hS hP (by rw [hjl, hlt2]; omega) (by simp)).mono ?_
          rintro e w' ⟨v, rfl, ho, hb'⟩
          rw [hjl, hlt2] at ho
          obtain ⟨A6, c6, e6, -, -, -, -⟩ := own_rd ho
          subst e6
          exact ⟨A6, c6, rfl, ho, hb'⟩
        have HJ := Lib.hid hj
        clear hj hlt2
        obtain ⟨W1, hW1⟩ : ∃ W1, W1 = wr.alloc (.cells #[.string y.nm, .slice Ay m cy, .int .i64 (y.n : Nat)] 66) := ⟨_, rfl⟩
        have HBW := Lib.hid (show Below wr.heap.size wr W1 from by rw [hW1]; exact (Below.refl _ wr).alloc (Nat.le_refl _) _)
        have HZW := Lib.hid (show W1.heap.size = wr.heap.size + 1 from by rw [hW1, World.size_alloc])
        rw [← hW1] at HL1
        have HGB := Lib.hid (show W1.heap[wr.heap.size]? = some (.cells #[.string y.nm, .slice Ay m cy, .int .i64 (y.n : Nat)] 66 (0, 0)) from by rw [hW1]; exact heap_alloc_new wr _)
        have HW1 := Lib.hid hW1
        have e0 : W1.cell? ⟨wr.heap.size, 0, none⟩ = some (.string y.nm) := by rw [hW1]; exact cell_blk (heap_alloc_new wr _) 0
        have e0a : ∀ o : Obj, (W1.alloc o).cell? ⟨wr.heap.size, 0, none⟩ = some (.string y.nm) := fun o => cell_blk ((Below.heap_alloc _ _ _ (blk_lt HGB.out)).trans HGB.out) 0
        have e1 : W1.cell? ⟨wr.heap.size, 1, none⟩ = some (.slice Ay m cy) := by rw [hW1]; exact cell_blk (heap_alloc_new wr _) 1
        have e2 : W1.cell? ⟨wr.heap.size, 2, none⟩ = some (.int .i64 (y.n : Nat)) := by rw [hW1]; exact cell_blk (heap_alloc_new wr _) 2
        clear hW1
        go_wp2
        rw [← HW1.out]
        go_region_law (first
          | (go_simp; go_at_call 24
             refine (HJ.out (W1.alloc (.cells #[.slice Ay N cy] 33)).drew W1.heap.size cy (below_drewN (HBW.out.alloc HBW.out.size _) 1) (heap_alloc_new W1 _)).mono ?_
             rintro e w6 ⟨A6, c6, rfl, ho6, hb6⟩
             have hw6 : Below W1.heap.size W1 w6 := (below_drewN ((Below.refl _ W1).alloc (Nat.le_refl _) _) 1).trans (hb6.mono (by show W1.heap.size ≤ (W1.alloc _).heap.size; rw [World.size_alloc]; omega))
             have j0 : w6.cell? ⟨wr.heap.size, 0, none⟩ = some (.string y.nm) := cell_blk ((hw6.block wr.heap.size (blk_lt HGB.out)).trans HGB.out) 0
             have HL6 := Lib.hid (HL1.out.below hw6)
             have HO6 := Lib.hid ho6
             have hlo6 : w.heap.size ≤ (W1.alloc (.cells #[.slice Ay N cy] 33)).drew.heap.size := by
               have := HL1.out.low.size
               show w.heap.size ≤ (W1.alloc (.cells #[.slice Ay N cy] 33)).heap.size
               rw [World.size_alloc]; omega
             have HLO := Lib.hid hlo6
             clear ho6 hb6 hw6 hlo6)
          | (refine step_append_f rfl (.tmp 32) (.tmp 43) rfl w.heap.size (.slice A' n' c') acc rfl (HL6.out.below ((Below.refl _ w6).alloc (Nat.le_refl _) _)).row ⟨w6.heap.size, 0, none⟩ 1 ⟨y.nm, .slice A6 N c6, y.bs.take N, N⟩ rfl (rd_row w6 _ 66) (fcells_one ⟨A6, N, c6, rfl⟩) (by omega) (by have := HL6.out.low.size; rw [World.size_alloc]; omega) ?_
             intro v4 w4 ho4 hg4
             have HL4 := Lib.hid (HL6.out.next (M' := crashD keep ((ys.map rval).take (k + 1))) _ ho4 hg4 (.inl (by rw [HLT.out]; exact HO6.out.lower (Nat.zero_le _))) (fun g hg => Nat.le_trans HLO.out (HO6.out.lt g hg).1) ⟨by show N ≤ (y.bs.take N).length; rw [HLT.out]; exact Nat.le_refl _, HYE.out.2⟩ (by rw [HNX.out, HCR.out, if_neg hz]; rfl))
             clear ho4 hg4)
          | fail)
        all_goals
          go_wp2
          go_roundw
          case rel => exact ⟨k + 1, by go_num, by omega, (by obtain ⟨A9, c9, e9, _⟩ := own_rd_f HL4.out.row; exact ⟨_, _, _, e9⟩), (show Aside _ from ⟨_, HL4.out⟩)⟩
          case measure => simp [intOf]; omega
    · obtain rfl : k = ys.length := by omega
      obtain ⟨acc, hla⟩ := LA.out
      have htk : (ys.map rval).take ys.length = ys.map rval := by rw [← List.length_map (f := rval), List.take_length]
      rw [htk] at hla
      have hbx := HB.out _ hla.low
      have g0 := cell_blk hbx 0; have g1 := cell_blk hbx 1; have q1 := free_blk hbx 1
      simp only [List.getElem?_toArray, List.getElem?_cons_succ, List.getElem?_cons_zero] at g0 g1
      have hsum : lenL (acc.map rval) ≤ lenL (ys.map rval) ∧ acc.length ≤ ys.length := by
        rw [hla.val]
        have hs := crash_sum keep (ys.map rval)
        have ha : acc.length = (crashD keep (ys.map rval)).length := by rw [← hla.val, List.length_map]
        rw [List.length_map] at hs
        exact ⟨hs.1, by omega⟩
      have hfin := H.out.laid (fun g => w.heap.size ≤ g) hla.low hla.row (fun z hz => ⟨(hla.at_ z hz).1, .inr fun g hg => (hla.at_ z hz).2 g hg⟩)
        ⟨Nat.le_trans hsum.1 H.out.fits.1, Nat.le_trans hsum.2 H.out.fits.2.2⟩ hla.each
      have HF := Lib.hid hfin; have HV := Lib.hid hla.val
      clear hbx hfin hla
      go_wp2
      go_end0
      obtain ⟨fv', f1, f2, f3⟩ := HF.out
      exact ⟨rfl, acc, HV.out, fv', f1, f2, fun k hk => (f3 k hk).elim .inl fun h => .inr (.inl (h.elim id id))⟩
end
end Go.Proofs.Ytnmbjhpecblioaa
