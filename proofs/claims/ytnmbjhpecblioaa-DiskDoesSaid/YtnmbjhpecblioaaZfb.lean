/-
  The plain answers' disk: a file less, a file in its place.
-/
import Derived.ArgAppend
import Derived.Test.YtnmbjhpecblioaaZfa
import Derived.Test.YtnmbjhpecblioaaDe
namespace Go.Proofs.Ytnmbjhpecblioaa
set_option linter.unusedVariables false
set_option linter.unusedSimpArgs false
open Go.RowKit
theorem infoRF : (Try.prog.info? 66).map (fun i => (i.zero, i.size, i.bytes)) = some (some (.agg #[.string ⟨#[]⟩, .slice none 0 0, .int .i64 0]), 3, 48) := by kernel_rfl
theorem own_empty_f (w : World) : (w.alloc (.cells #[] 66)).ownsRow w.heap.size 66 3 (.slice (some ⟨w.heap.size, 0, none⟩) 0 0) 0 [] :=
  World.ownsRow_made w #[] 0 (Nat.le_refl _) (by decide) rfl
theorem fcells_one {y : RF} (h : ∃ A n c, y.v = .slice A n c) : ∀ u ∈ fcells y, u.oneCell' = true := by
  obtain ⟨A, n, c, h⟩ := h
  intro u hu
  unfold fcells at hu
  rw [h] at hu
  simp only [List.mem_cons, List.not_mem_nil, or_false] at hu
  rcases hu with rfl | rfl | rfl <;> rfl
theorem own_below_f {w w' : World} {B : Nat} {v : Value} {n : Nat} {xs : List Value} (h : w.ownsRow B 66 3 v n xs) (hb : RowKit.Below w.heap.size w w') : w'.ownsRow B 66 3 v n xs :=
  own_moved h (fun g hg => hb.block g (h.lt g hg).2)
theorem wpList_append_f {w : World} {ops : Array Oper} {rest : List Oper} {o : Oper} {a : Act} {Q : Exit → Act → World → Prop} (hgd : o.guard = none) (s x : Operand)
    (ho : o.op = .call { callee := .builtin .append, args := #[s, x], argTypes := #[29, 29] })
    (base : Nat) (v : Value) (xs : List RF) (hs : a.eval s = v) (hown : w.ownsRow base 66 3 v xs.length (xs.flatMap fcells))
    (ad : Addr) (c : Nat) (y : RF) (hx : a.eval x = .slice (some ad) 1 c) (hy : Rd w (some ad) (fcells y)) (h1 : ∀ u ∈ fcells y, u.oneCell' = true)
    (hl : xs.length ≤ 1000) (hbase : base ≤ w.heap.size)
    (h : ∀ v' w', w'.ownsRow base 66 3 v' (xs ++ [y]).length ((xs ++ [y]).flatMap fcells) → w.grownBy w' v.ownBlock → wpList Try.prog ops Q rest (a.put o.dst v') w') : wpList Try.prog ops Q (o :: rest) a w := by
  obtain ⟨i0, hi, hz0, hz1, hz2⟩ := info_parts infoRF
  rw [List.length_append, List.flatMap_append, List.flatMap_singleton] at h
  exact wpList_append_own w hgd s x 29 ho base 66 i0 (.agg #[.string ⟨#[]⟩, .slice none 0 0, .int .i64 0]) 3 48 Try.underlying29 hi hz0 hz1 hz2 rfl (by decide) v xs.length (xs.flatMap fcells) hs hown ad 1 c (fcells y) hx rfl (rd_cells hy) h1 (by unfold maxLen; omega) (by omega) hbase (fun v' w' a b _ => h v' w' a b)
def dropR (ys : List RF) (s : ByteArray) : List RF := ys.filter fun y => !decide (y.nm = s)
theorem drop_rval (ys : List RF) (s : ByteArray) : (dropR ys s).map rval = delL (ys.map rval) s := by
  unfold dropR delL
  rw [List.filter_map]; rfl
theorem dropR_take {ys : List RF} {k : Nat} {y : RF} (h : ys[k]? = some y) (s : ByteArray) : dropR (ys.take (k + 1)) s = if y.nm = s then dropR (ys.take k) s else dropR (ys.take k) s ++ [y] := by
  obtain ⟨h1, h2⟩ := List.getElem?_eq_some_iff.1 h
  unfold dropR
  rw [List.take_succ_eq_append_getElem h1, h2, List.filter_append]
  by_cases hn : y.nm = s <;> simp [hn]
theorem dropR_len (ys : List RF) (s : ByteArray) : (dropR ys s).length ≤ ys.length := List.length_filter_le _ _
/-- What a change of the plain disk comes to: its files; the rest of the memory as it was. -/
def RefOut (w : World) (p room : Nat) (fv : Value) (ys ys' : List RF) (S : Nat → Prop) (w' : World) : Prop :=
  ∃ fv', RefE w' p room fv' ys' ∧ Mv (fun k => k = p) w w' ∧ ∀ k, footR p fv' ys' k → footR p fv ys k ∨ w.heap.size ≤ k ∨ S k
/-- The list of files laid anew in the disk's box. -/
theorem RefE.laid (S : Nat → Prop) {w w1 : World} {p room : Nat} {fv : Value} {ys : List RF} (h : RefE w p room fv ys) (hb : Below w.heap.size w w1) {fv' : Value} {ys' : List RF}
    (ho : w1.ownsRow w.heap.size 66 3 fv' ys'.length (ys'.flatMap fcells)) (hat : ∀ y ∈ ys', BytesAt w1 y.v y.bs ∧ ((∃ x ∈ ys, y.v.ownBlock = x.v.ownBlock) ∨ ∀ g, y.v.ownBlock = some g → S g)) (hf : lenL (ys'.map rval) ≤ room ∧ ys'.length ≤ 64) (he : ∀ y ∈ ys', y.n ≤ y.bs.length ∧ y.nm.size ≤ 32) :
    RefOut w p room fv ys ys' S (w1.setCell ⟨p, 1, none⟩ fv') := by
  have hp := (hb.block p (blk_lt h.box)).trans h.box
  have hpl := blk_lt h.box
  refine ⟨fv', ⟨set_box1 hp, ?_, fun y hy => (hat y hy).1.moved fun g hg => set_other _ _ _ _ fun e => ?_, ⟨hf.1, h.fits.2.1, hf.2⟩, he⟩, ?_, fun k hk => ?_⟩
  · exact own_moved (ho.lower (Nat.zero_le _)) fun g hg => set_other _ _ _ _ fun e => by have := (ho.lt g hg).1; omega
  · exact (hat y hy).1.ne hp (by decide) (e ▸ hg)
  · exact (Mv.setCell (p := ⟨p, 1, none⟩) (⟨hb.os, hb.tape, hb.output, hb.size, fun k hk _ => hb.block k hk⟩ : Mv (fun k => k = p) w w1) (fun _ => rfl) _)
  · rcases hk with rfl | hk | ⟨y, hy, hk⟩
    · exact .inl (.inl rfl)
    · exact .inr (.inl (ho.lt k hk).1)
    · rcases (hat y hy).2 with ⟨x, hx, e⟩ | hg
      · exact .inl (.inr (.inr ⟨x, hx, by rw [← e]; exact hk⟩))
      · exact .inr (.inr (hg k hk))
section
set_option maxHeartbeats 1600000
set_option maxRecDepth 100000
variable {w : World} {p room : Nat} {fv : Value} {ys : List RF}
theorem rdrop_any (h : RefE w p room fv ys) (s : ByteArray) : Calls Try.prog 41 #[.pointer (some ⟨p, 0, none⟩), .string s] w fun e w' =>
    e = .returned (.tuple #[]) ∧ RefOut w p room fv ys (dropR ys s) (fun _ => False) w' := by
  have hl := h.fits.2.2
  have hv : ∀ y ∈ ys, ∃ A c, y.v = .slice A y.bs.length c := fun y hy => by obtain ⟨A, c, e, _⟩ := (h.at_ y hy).rd; exact ⟨A, c, e⟩
  have HV := Lib.hid hv; have H := Lib.hid h
  have hpl := blk_lt h.box
  have hB : ∀ W', Below w.heap.size w W' → W'.heap[p]? = some (.cells #[.int .i64 (room : Nat), fv] 31 (0, 0)) := fun W' hb => (hb.block p hpl).trans h.box
  have HB := Lib.hid hB
  obtain ⟨A, c, rfl, hr, hc1, hc2⟩ := own_rd_f h.row
  unfold maxLen at hc2
  have HR := Lib.hid hr
  have c0 := cell_blk h.box 0; have c1 := cell_blk h.box 1
  simp only [List.getElem?_toArray, List.getElem?_cons_succ, List.getElem?_cons_zero] at c0 c1
  have c1' : (w.alloc (.cells #[] 66)).cell? ⟨p, 1, none⟩ = some (.slice A ys.length c) := by
    have := cell_blk (((Below.refl _ w).alloc (Nat.le_refl _) (.cells #[] 66)).block p hpl |>.trans h.box) 1
    simpa using this
  clear hr h hv hB
  go_enter Try.func41, Try.ntmps41
  go_wp2
  go_loopw [4, 13] (fun s4 s13 wr => ∃ k : Nat, s13 = .int .i64 k ∧ k ≤ ys.length ∧ (∃ A' n' c', s4 = .slice A' n' c') ∧ Aside (wr.ownsRow w.heap.size 66 3 s4 (dropR (ys.take k) s).length ((dropR (ys.take k) s).flatMap fcells)) ∧ Aside (Below w.heap.size w wr)) (fun _ s13 _ => ys.length - (intOf s13).toNat)
  case atStart => exact ⟨0, rfl, by omega, ⟨_, _, _, rfl⟩, own_empty_f w, (Below.refl _ w).alloc (Nat.le_refl _) _⟩
  case round =>
    obtain ⟨k, rfl, hk, ⟨A', n', c', rfl⟩, OW, BW⟩ := hrel
    have k0 : (0 : Int) ≤ (k : Int) := by omega
    by_cases hlt : k < ys.length
    · have k1 : (k : Int) < (ys.length : Int) := by omega
      have k2 : (k : Int) ≤ (c : Int) := by omega
      obtain ⟨y, hy⟩ : ∃ y, ys[k]? = some y := ⟨_, List.getElem?_eq_getElem hlt⟩
      obtain ⟨b, off, rfl, hcl⟩ := (HR.out.below BW.out).flat fcells_len (by decide) hy
      have d0 := hcl 0 _ rfl; have d1 := hcl 1 _ rfl; have d2 := hcl 2 _ rfl
      rw [Nat.add_zero] at d0
      have htk := dropR_take hy s
      obtain ⟨Av, cv, hyv⟩ := HV.out y (List.mem_of_getElem? hy)
      have hone := fcells_one ⟨Av, _, cv, hyv⟩
      have hlen : (dropR (ys.take k) s).length ≤ 64 := Nat.le_trans (dropR_len _ _) (by rw [List.length_take]; omega)
      have HONE := Lib.hid hone
      rw [hyv] at d1
      obtain ⟨m, hm⟩ : ∃ m, m = y.bs.length := ⟨_, rfl⟩
      rw [← hm] at d1
      have hrow : fcells y = [.string y.nm, .slice Av m cv, .int .i64 (y.n : Nat)] := by unfold fcells; rw [hyv, hm]
      obtain ⟨W1, hW1⟩ : ∃ W1, W1 = wr.alloc (.cells #[.string y.nm, .slice Av m cv, .int .i64 (y.n : Nat)] 66) := ⟨_, rfl⟩
      have hbb := BW.out.alloc BW.out.size (.cells #[.string y.nm, .slice Av m cv, .int .i64 (y.n : Nat)] 66)
      rw [← hW1] at hbb
      have hg1 : W1.heap[wr.heap.size]? = some (.cells #[.string y.nm, .slice Av m cv, .int .i64 (y.n : Nat)] 66 (0, 0)) := by rw [hW1]; exact heap_alloc_new wr _
      have e0 := cell_blk hg1 0; have e1 := cell_blk hg1 1; have e2 := cell_blk hg1 2
      simp only [List.getElem?_toArray, List.getElem?_cons_succ, List.getElem?_cons_zero] at e0 e1 e2
      have hoW : W1.ownsRow w.heap.size 66 3 (.slice A' n' c') (dropR (ys.take k) s).length ((dropR (ys.take k) s).flatMap fcells) := own_below_f OW.out (by rw [hW1]; exact (Below.refl _ wr).alloc (Nat.le_refl _) _)
      have HBB := Lib.hid hbb; have HTK := Lib.hid htk; have HROW := Lib.hid hrow; have HOW := Lib.hid hoW; have HW1 := Lib.hid hW1; have HS1 := Lib.hid hbb.size; have HSZ := Lib.hid (show W1.heap.size = wr.heap.size + 1 by rw [hW1, World.size_alloc])
      clear hcl hy hyv hm htk hone hrow hbb hoW hg1 hW1
      by_cases hn : y.nm = s
      · have t1 := stq_is hn
        have t2 : (y.nm.toList != s.toList) = false := by rw [bne, t1]; rfl
        have HN := Lib.hid hn; clear hn
        go_wp2_with fail
        rw [← HW1.out]
        go_roundw
        case rel => exact ⟨k + 1, by go_num, by omega, ⟨_, _, _, rfl⟩, (show Aside _ from by rw [HTK.out, if_pos HN.out]; exact HOW.out), HBB.out⟩
        case measure => simp [intOf]; omega
      · have t1 := stq_not hn
        have t2 : (y.nm.toList != s.toList) = true := by rw [bne, t1]; rfl
        have HN := Lib.hid hn; clear hn
        go_wp2_with (first
          | (at_builtin; (rw [← HW1.out]; refine wpList_append_f rfl _ _ rfl w.heap.size _ (dropR (ys.take k) s) rfl (own_below_f HOW.out ((Below.refl _ W1).alloc (Nat.le_refl _) _)) ⟨wr.heap.size + 1, 0, none⟩ 1 y rfl (by rw [HROW.out, ← HSZ.out]; exact rd_row W1 _ 66) HONE.out (by omega) (by have := HS1.out; rw [World.size_alloc]; omega) ?_; intro v4 w4 ho4 hg4; have HO4 := Lib.hid ho4; have HB4 := Lib.hid (Below.grown (HBB.out.alloc HBB.out.size _) hg4 (by have := HS1.out; rw [World.size_alloc]; omega) (fun k hk => (HOW.out.lt k hk).1)); clear ho4 hg4))
          | fail)
        go_roundw
        case rel => exact ⟨k + 1, by go_num, by omega, (by obtain ⟨A9, c9, e9, _⟩ := own_rd_f HO4.out; exact ⟨_, _, _, e9⟩), (show Aside _ from by rw [HTK.out, if_neg HN.out]; exact HO4.out), HB4.out⟩
        case measure => simp [intOf]; omega
    · obtain rfl : k = ys.length := by omega
      have hO := OW.out
      rw [List.take_length] at hO
      have hbx := HB.out _ BW.out
      have g0 := cell_blk hbx 0; have g1 := cell_blk hbx 1; have q1 := free_blk hbx 1
      simp only [List.getElem?_toArray, List.getElem?_cons_succ, List.getElem?_cons_zero] at g0 g1
      have hfin := H.out.laid (fun _ => False) BW.out hO (fun y hy => ⟨((H.out.below BW.out).at_ y (List.mem_filter.1 hy).1), .inl ⟨y, (List.mem_filter.1 hy).1, rfl⟩⟩)
        ⟨Nat.le_trans (lenL_sub ((List.filter_sublist).map rval)) H.out.fits.1, Nat.le_trans (dropR_len _ _) H.out.fits.2.2⟩ (fun y hy => H.out.each y (List.mem_filter.1 hy).1)
      have HF := Lib.hid hfin
      clear hO hbx hfin
      go_wp2
      go_end0
      exact ⟨rfl, HF.out⟩
end
end Go.Proofs.Ytnmbjhpecblioaa
