/-
  The plain answers' disk: a file laid in its place.
-/
import Derived.Test.YtnmbjhpecblioaaZfb
namespace Go.Proofs.Ytnmbjhpecblioaa
set_option linter.unusedVariables false
set_option linter.unusedSimpArgs false
open Go.RowKit
theorem less_z : ∀ a b : Bs, Op.bytesLess a b = decide (a < b)
  | [], [] => by simp [Op.bytesLess]
  | _ :: _, [] => by simp [Op.bytesLess]
  | [], _ :: _ => by simp [Op.bytesLess]
  | x :: a, y :: b => by
    unfold Op.bytesLess
    rw [less_z a b]
    simp only [List.cons_lt_cons_iff]
    by_cases h1 : x < y <;> by_cases h2 : x = y <;> simp_all
theorem less_t (a b : ByteArray) : Op.bytesLess a.toList b.toList = decide (bl a < bl b) := by rw [less_z, toList_bl, toList_bl]
theorem gtr_text {P : Program} (t : TypeId) (a b : ByteArray) (w : World) : (binOp .gtr t (.string a) (.string b)).run P w = .ok (.bool (!(Op.bytesLess a.toList b.toList || a.toList == b.toList))) w := by
  unfold binOp Op.stringOp
  rfl
def putR (ys : List RF) (x : RF) : List RF := ((dropR ys x.nm).filter fun y => decide (bl y.nm < bl x.nm)) ++ [x] ++ (dropR ys x.nm).filter fun y => decide (bl x.nm < bl y.nm)
theorem ins_parts (x : Fl) : ∀ {L : List Fl}, (L.Pairwise fun a b => bl a.1 < bl b.1) → (∀ f ∈ L, f.1 ≠ x.1) → insL x L = (L.filter fun f => decide (bl f.1 < bl x.1)) ++ [x] ++ L.filter fun f => decide (bl x.1 < bl f.1)
  | [], _, _ => rfl
  | y :: r, hp, hn => by
    rw [List.pairwise_cons] at hp
    have ih := ins_parts x hp.2 fun f hf => hn f (List.mem_cons_of_mem _ hf)
    unfold insL
    by_cases hlt : bl x.1 < bl y.1
    · rw [if_pos hlt]
      have hall : ∀ f ∈ y :: r, bl x.1 < bl f.1 := fun f hf => by
        rcases List.mem_cons.1 hf with rfl | hf
        · exact hlt
        · exact ltB_trans hlt (hp.1 f hf)
      rw [List.filter_eq_nil_iff.2 (fun f hf => by simpa using ltB_asymm (hall f hf)), List.filter_eq_self.2 (fun f hf => by simpa using hall f hf)]
      rfl
    · rw [if_neg hlt]
      have hyx : bl y.1 < bl x.1 := by
        rcases ltB_total (bl x.1) (bl y.1) with h | h | h
        · exact absurd h hlt
        · exact absurd (bl_inj h).symm (hn y (by simp))
        · exact h
      rw [ih, List.filter_cons, List.filter_cons, if_pos (by simpa using hyx), if_neg (by simpa using hlt)]
      rfl
theorem put_rval {ys : List RF} {x : RF} (h : (ys.map rval).Pairwise fun a b => bl a.1 < bl b.1) : (putR ys x).map rval = putL (ys.map rval) (rval x) := by
  unfold putL
  rw [ins_parts (rval x) (L := delL (ys.map rval) (rval x).1) (List.Pairwise.sublist List.filter_sublist h) (fun f hf => by
    have := (List.mem_filter.1 hf).2
    simpa using this)]
  show _ = ((delL (ys.map rval) x.nm).filter fun f => decide (bl f.1 < bl x.nm)) ++ [rval x] ++ (delL (ys.map rval) x.nm).filter fun f => decide (bl x.nm < bl f.1)
  rw [← drop_rval, List.filter_map, List.filter_map]
  unfold putR
  rw [List.map_append, List.map_append]
  rfl
theorem filt_take {P : RF → Bool} {L : List RF} {k : Nat} {y : RF} (h : L[k]? = some y) : (L.take (k + 1)).filter P = if P y = true then (L.take k).filter P ++ [y] else (L.take k).filter P := by
  obtain ⟨h1, h2⟩ := List.getElem?_eq_some_iff.1 h
  rw [List.take_succ_eq_append_getElem h1, h2, List.filter_append]
  cases hp : P y <;> simp [hp]
theorem filt_len (P : RF → Bool) (L : List RF) (k : Nat) : ((L.take k).filter P).length ≤ L.length := Nat.le_trans (List.length_filter_le _ _) (by rw [List.length_take]; omega)
section
set_option maxHeartbeats 3200000
set_option maxRecDepth 100000
variable {w : World} {p room : Nat} {fv : Value} {ys : List RF}
theorem rput_any (h : RefE w p room fv ys) (x : RF) (Ax : Option Addr) (mx cx : Nat) (hxv : x.v = .slice Ax mx cx) (hxb : BytesAt w x.v x.bs) (hxe : x.n ≤ x.bs.length ∧ x.nm.size ≤ 32)
    (hfit : lenL ((putR ys x).map rval) ≤ room ∧ (putR ys x).length ≤ 64) :
    Calls Try.prog 40 #[.pointer (some ⟨p, 0, none⟩), .agg #[.string x.nm, .slice Ax mx cx, .int .i64 (x.n : Nat)]] w fun e w' =>
    e = .returned (.tuple #[]) ∧ RefOut w p room fv ys (putR ys x) (fun g => x.v.ownBlock = some g) w' := by
  obtain ⟨W0, hW0⟩ : ∃ W0, W0 = w.alloc (.cells #[.string x.nm, .slice Ax mx cx, .int .i64 (x.n : Nat)] 66) := ⟨_, rfl⟩
  have hb0 : Below w.heap.size w W0 := by rw [hW0]; exact (Below.refl _ w).alloc (Nat.le_refl _) _
  have hg0 : W0.heap[w.heap.size]? = some (.cells #[.string x.nm, .slice Ax mx cx, .int .i64 (x.n : Nat)] 66 (0, 0)) := by rw [hW0]; exact heap_alloc_new w _
  have hl0 := blk_lt hg0
  have h0 := h.below hb0
  have HD := Lib.hid (rdrop_any h0 x.nm)
  have hx0 := hxb.moved (w' := W0) fun g hg => hb0.block g (hxb.lt hg)
  have e0 := cell_blk hg0 0; have e1 := cell_blk hg0 1; have e2 := cell_blk hg0 2
  simp only [List.getElem?_toArray, List.getElem?_cons_succ, List.getElem?_cons_zero] at e0 e1 e2
  have hnf : ¬ footR p fv ys w.heap.size := fun hk => by have := h.lt hk; omega
  have hrow : fcells x = [.string x.nm, .slice Ax mx cx, .int .i64 (x.n : Nat)] := by unfold fcells; rw [hxv]
  have hone := fcells_one ⟨Ax, _, cx, hxv⟩
  have HW0 := Lib.hid hW0; have H := Lib.hid h; have H0 := Lib.hid h0; have HG0 := Lib.hid hg0; have HB0 := Lib.hid hb0; have HX0 := Lib.hid hx0; have HNF := Lib.hid hnf; have HROWX := Lib.hid hrow; have HONEX := Lib.hid hone; have HXB := Lib.hid hxb; have HXE := Lib.hid hxe; have HFIT := Lib.hid hfit
  clear hW0 h h0 hg0 hb0 hx0 hnf hrow hone hxb hxe hfit hxv
  go_enter Try.func40, Try.ntmps40
  go_wp2_with fail
  rw [← HW0.out]
  with_reducible refine HD.out.mono ?_
  rintro e w1 ⟨rfl, fv1, R1, M1, F1⟩
  obtain ⟨L, hLd⟩ : ∃ L, L = dropR ys x.nm := ⟨_, rfl⟩
  rw [← hLd] at R1 F1
  have HLD := Lib.hid hLd; clear HD
  have hg1 := (M1.block w.heap.size hl0 (fun e => HNF.out (.inl e))).trans HG0.out
  have hl1 := blk_lt hg1
  have hx1 : BytesAt w1 x.v x.bs := HX0.out.moved fun g hg => M1.block g (HX0.out.lt hg) fun e => HX0.out.ne H0.out.box (by decide) (by rw [← e]; exact hg)
  have hL : L.length ≤ 64 := R1.fits.2.2
  have F1' : ∀ k, footR p fv1 (L) k → footR p fv ys k ∨ w.heap.size ≤ k := fun k hk => by
    rcases F1 k hk with hf | hf | hf
    · exact .inl hf
    · exact .inr (Nat.le_trans HB0.out.size hf)
    · exact hf.elim
  have HX1 := Lib.hid hx1; have HM1 := Lib.hid M1; have HF1 := Lib.hid F1'; have HR1 := Lib.hid R1; have HG1 := Lib.hid hg1
  have hput : putR ys x = (L.filter fun y => decide (bl y.nm < bl x.nm)) ++ [x] ++ L.filter fun y => decide (bl x.nm < bl y.nm) := by unfold putR; rw [← hLd]
  have HPUT := Lib.hid hput
  have HMEM := Lib.hid (show ∀ y ∈ putR ys x, y = x ∨ y ∈ L from fun y hy => by
    rw [hput] at hy
    rcases List.mem_append.1 hy with hy | hy
    · rcases List.mem_append.1 hy with hy | hy
      · exact .inr (List.mem_filter.1 hy).1
      · exact .inl (List.mem_singleton.1 hy)
    · exact .inr (List.mem_filter.1 hy).1)
  have hv : ∀ y ∈ L, ∃ A c, y.v = .slice A y.bs.length c := fun y hy => by obtain ⟨A, c, e, _⟩ := (R1.at_ y hy).rd; exact ⟨A, c, e⟩
  have HV := Lib.hid hv
  have hpl := blk_lt R1.box
  have hB : ∀ W', Below w1.heap.size w1 W' → W'.heap[p]? = some (.cells #[.int .i64 (room : Nat), fv1] 31 (0, 0)) := fun W' hb => (hb.block p hpl).trans R1.box
  have hBX : ∀ W', Below w1.heap.size w1 W' → W'.heap[w.heap.size]? = some (.cells #[.string x.nm, .slice Ax mx cx, .int .i64 (x.n : Nat)] 66 (0, 0)) := fun W' hb => (hb.block _ hl1).trans hg1
  have HB := Lib.hid hB; have HBX := Lib.hid hBX
  obtain ⟨A, c, rfl, hr, hc1, hc2⟩ := own_rd_f R1.row
  unfold maxLen at hc2
  have HR := Lib.hid hr
  have g0 := cell_blk R1.box 0; have g1 := cell_blk R1.box 1
  have i0 := cell_blk hg1 0; have i1 := cell_blk hg1 1; have i2 := cell_blk hg1 2
  simp only [List.getElem?_toArray, List.getElem?_cons_succ, List.getElem?_cons_zero] at g0 g1 i0 i1 i2
  have g1' : (w1.alloc (.cells #[] 66)).cell? ⟨p, 1, none⟩ = some (.slice A L.length c) := by
    have := cell_blk (hB _ ((Below.refl _ w1).alloc (Nat.le_refl _) (.cells #[] 66))) 1
    simpa using this
  clear hr R1 M1 F1 F1' hB hBX hv hx1 hg1 hput hLd
  go_wp2
  go_loopw [4, 19] (fun s wi wr => ∃ k : Nat, wi = .int .i64 k ∧ k ≤ L.length ∧ (∃ A' n' c', s = .slice A' n' c') ∧ Aside (wr.ownsRow w1.heap.size 66 3 s ((L.take k).filter (fun y : RF => decide (bl y.nm < bl x.nm))).length (((L.take k).filter (fun y : RF => decide (bl y.nm < bl x.nm))).flatMap fcells)) ∧ Aside (Below w1.heap.size w1 wr)) (fun _ wi _ => L.length - (intOf wi).toNat)
  case atStart => exact ⟨0, rfl, by omega, ⟨_, _, _, rfl⟩, own_empty_f w1, (Below.refl _ w1).alloc (Nat.le_refl _) _⟩
  case round =>
    obtain ⟨k, rfl, hk, ⟨A', n', c', rfl⟩, OW, BW⟩ := hrel
    have k0 : (0 : Int) ≤ (k : Int) := by omega
    by_cases hlt : k < L.length
    · have k1 : (k : Int) < (L.length : Int) := by omega
      have k2 : (k : Int) ≤ (c : Int) := by omega
      obtain ⟨y, hy⟩ : ∃ y, L[k]? = some y := ⟨_, List.getElem?_eq_getElem hlt⟩
      obtain ⟨b, off, rfl, hcl⟩ := (HR.out.below BW.out).flat fcells_len (by decide) hy
      have d0 := hcl 0 _ rfl; have d1 := hcl 1 _ rfl; have d2 := hcl 2 _ rfl
      rw [Nat.add_zero] at d0
      have htk := filt_take (P := (fun y : RF => decide (bl y.nm < bl x.nm))) hy
      obtain ⟨Av, cv, hyv⟩ := HV.out y (List.mem_of_getElem? hy)
      have hone := fcells_one ⟨Av, _, cv, hyv⟩
      have hlen : ((L.take k).filter (fun y : RF => decide (bl y.nm < bl x.nm))).length ≤ 64 := by
        have := filt_len (fun y : RF => decide (bl y.nm < bl x.nm)) L k
        first | omega | (simp only [List.length_append, List.length_singleton]; have := List.length_filter_le (fun y : RF => decide (bl y.nm < bl x.nm)) L; omega)
      have HONE := Lib.hid hone
      rw [hyv] at d1
      obtain ⟨m, hm⟩ : ∃ m, m = y.bs.length := ⟨_, rfl⟩
      rw [← hm] at d1
      have hrow : fcells y = [.string y.nm, .slice Av m cv, .int .i64 (y.n : Nat)] := by unfold fcells; rw [hyv, hm]
      obtain ⟨W1, hW1⟩ : ∃ W1, W1 = wr.alloc (.cells #[.string y.nm, .slice Av m cv, .int .i64 (y.n : Nat)] 66) := ⟨_, rfl⟩
      have hbb := BW.out.alloc BW.out.size (.cells #[.string y.nm, .slice Av m cv, .int .i64 (y.n : Nat)] 66)
      rw [← hW1] at hbb
      have hg1 : W1.heap[wr.heap.size]? = some (.cells #[.string y.nm, .slice Av m cv, .int .i64 (y.n : Nat)] 66 (0, 0)) := by rw [hW1]; exact heap_alloc_new wr _
      have e0 := cell_blk hg1 0; have e1 := cell_blk hg1 1; have e2 := cell_blk hg1 2
      have hbx := HBX.out _ hbb
      have i0 := cell_blk hbx 0; have i1 := cell_blk hbx 1; have i2 := cell_blk hbx 2
      simp only [List.getElem?_toArray, List.getElem?_cons_succ, List.getElem?_cons_zero] at e0 e1 e2 i0 i1 i2
      have j0 := i0
      rw [hW1] at j0
      have hoW : W1.ownsRow w1.heap.size 66 3 (.slice A' n' c') ((L.take k).filter (fun y : RF => decide (bl y.nm < bl x.nm))).length (((L.take k).filter (fun y : RF => decide (bl y.nm < bl x.nm))).flatMap fcells) := own_below_f OW.out (by rw [hW1]; exact (Below.refl _ wr).alloc (Nat.le_refl _) _)
      have HBB := Lib.hid hbb; have HTK := Lib.hid htk; have HROW := Lib.hid hrow; have HOW := Lib.hid hoW; have HW1 := Lib.hid hW1; have HS1 := Lib.hid hbb.size
      have HSZ := Lib.hid (show W1.heap.size = wr.heap.size + 1 by rw [hW1, World.size_alloc])
      have t1 := less_t y.nm x.nm
      clear hcl hy hyv hm htk hone hrow hbb hoW hg1 hW1 hbx
      by_cases hn : bl y.nm < bl x.nm
      · rw [decide_eq_true hn] at t1
        have HN := Lib.hid hn; clear hn
        go_wp2_with (first
          | (at_builtin; (rw [← HW1.out]; refine wpList_append_f rfl _ _ rfl w1.heap.size _ ((L.take k).filter (fun y : RF => decide (bl y.nm < bl x.nm))) rfl (own_below_f HOW.out ((Below.refl _ W1).alloc (Nat.le_refl _) _)) ⟨wr.heap.size + 1, 0, none⟩ 1 y rfl (by rw [HROW.out, ← HSZ.out]; exact rd_row W1 _ 66) HONE.out (by omega) (by have := HS1.out; rw [World.size_alloc]; omega) ?_; intro v4 w4 ho4 hg4; have HO4 := Lib.hid ho4; have HB4 := Lib.hid (Below.grown (HBB.out.alloc HBB.out.size _) hg4 (by have := HS1.out; rw [World.size_alloc]; omega) (fun k hk => (HOW.out.lt k hk).1)); clear ho4 hg4))
          | fail)
        go_roundw
        case rel => exact ⟨k + 1, by go_num, by omega, (by obtain ⟨A9, c9, e9, _⟩ := own_rd_f HO4.out; exact ⟨_, _, _, e9⟩), (show Aside _ from by rw [HTK.out, if_pos (by simpa using HN.out)]; exact HO4.out), HB4.out⟩
        case measure => simp [intOf]; omega
      · rw [decide_eq_false hn] at t1
        have HN := Lib.hid hn; clear hn
        go_wp2_with fail
        rw [← HW1.out]
        go_roundw
        case rel => exact ⟨k + 1, by go_num, by omega, ⟨_, _, _, rfl⟩, (show Aside _ from by rw [HTK.out, if_neg (by simpa using HN.out)]; exact HOW.out), HBB.out⟩
        case measure => simp [intOf]; omega
    · obtain rfl : k = L.length := by omega
      rw [List.take_length] at OW
      have hbx := HBX.out _ BW.out
      have e0 := cell_blk hbx 0; have e1 := cell_blk hbx 1; have e2 := cell_blk hbx 2
      have hpp := HB.out _ BW.out
      have f0 := cell_blk hpp 0; have f1 := cell_blk hpp 1
      simp only [List.getElem?_toArray, List.getElem?_cons_succ, List.getElem?_cons_zero] at e0 e1 e2 f0 f1
      have hlen : (L.filter (fun y : RF => decide (bl y.nm < bl x.nm))).length ≤ 64 := Nat.le_trans (List.length_filter_le _ _) hL
      have HOW := Lib.hid OW.out; have HBW := Lib.hid BW.out; have hsz := BW.out.size
      clear OW BW hbx hpp
      go_wp2_with (first
        | (at_builtin; (refine wpList_append_f rfl _ _ rfl w1.heap.size _ (L.filter (fun y : RF => decide (bl y.nm < bl x.nm))) rfl (own_below_f HOW.out ((Below.refl _ wr).alloc (Nat.le_refl _) _)) ⟨wr.heap.size, 0, none⟩ 1 x rfl (by rw [HROWX.out]; exact rd_row wr _ 66) HONEX.out (by omega) (by rw [World.size_alloc]; omega) ?_; intro v4 w4 ho4 hg4; have hb4 := Below.grown (HBW.out.alloc HBW.out.size _) hg4 (by rw [World.size_alloc]; omega) (fun k hk => (HOW.out.lt k hk).1); have hpp := HB.out _ hb4; have u0 := cell_blk hpp 0; have u1 := cell_blk hpp 1; simp only [List.getElem?_toArray, List.getElem?_cons_succ, List.getElem?_cons_zero] at u0 u1; have HO4 := Lib.hid ho4; have HB4 := Lib.hid hb4; clear ho4 hg4 hb4 hpp))
        | fail)
      go_loopw [4, 42] (fun s wi wr => ∃ k : Nat, wi = .int .i64 k ∧ k ≤ L.length ∧ (∃ A' n' c', s = .slice A' n' c') ∧ Aside (wr.ownsRow w1.heap.size 66 3 s (L.filter (fun y : RF => decide (bl y.nm < bl x.nm)) ++ [x] ++ (L.take k).filter (fun y : RF => decide (bl x.nm < bl y.nm))).length ((L.filter (fun y : RF => decide (bl y.nm < bl x.nm)) ++ [x] ++ (L.take k).filter (fun y : RF => decide (bl x.nm < bl y.nm))).flatMap fcells)) ∧ Aside (Below w1.heap.size w1 wr)) (fun _ wi _ => L.length - (intOf wi).toNat)
      case atStart => exact ⟨0, rfl, by omega, (by obtain ⟨A9, c9, e9, _⟩ := own_rd_f HO4.out; exact ⟨_, _, _, e9⟩), (show Aside _ from by rw [List.take_zero, List.filter_nil, List.append_nil]; exact HO4.out), HB4.out⟩
      case round =>
        obtain ⟨k, rfl, hk, ⟨A', n', c', rfl⟩, OW, BW⟩ := hrel
        have k0 : (0 : Int) ≤ (k : Int) := by omega
        by_cases hlt : k < L.length
        · have k1 : (k : Int) < (L.length : Int) := by omega
          have k2 : (k : Int) ≤ (c : Int) := by omega
          obtain ⟨y, hy⟩ : ∃ y, L[k]? = some y := ⟨_, List.getElem?_eq_getElem hlt⟩
          obtain ⟨b, off, rfl, hcl⟩ := (HR.out.below BW.out).flat fcells_len (by decide) hy
          have d0 := hcl 0 _ rfl; have d1 := hcl 1 _ rfl; have d2 := hcl 2 _ rfl
          rw [Nat.add_zero] at d0
          have htk := filt_take (P := (fun y : RF => decide (bl x.nm < bl y.nm))) hy
          obtain ⟨Av, cv, hyv⟩ := HV.out y (List.mem_of_getElem? hy)
          have hone := fcells_one ⟨Av, _, cv, hyv⟩
          have hlen : (L.filter (fun y : RF => decide (bl y.nm < bl x.nm)) ++ [x] ++ (L.take k).filter (fun y : RF => decide (bl x.nm < bl y.nm))).length ≤ 200 := by
            have := filt_len (fun y : RF => decide (bl x.nm < bl y.nm)) L k
            first | omega | (simp only [List.length_append, List.length_singleton]; have := List.length_filter_le (fun y : RF => decide (bl y.nm < bl x.nm)) L; omega)
          have HONE := Lib.hid hone
          rw [hyv] at d1
          obtain ⟨m, hm⟩ : ∃ m, m = y.bs.length := ⟨_, rfl⟩
          rw [← hm] at d1
          have hrow : fcells y = [.string y.nm, .slice Av m cv, .int .i64 (y.n : Nat)] := by unfold fcells; rw [hyv, hm]
          obtain ⟨W1, hW1⟩ : ∃ W1, W1 = wr.alloc (.cells #[.string y.nm, .slice Av m cv, .int .i64 (y.n : Nat)] 66) := ⟨_, rfl⟩
          have hbb := BW.out.alloc BW.out.size (.cells #[.string y.nm, .slice Av m cv, .int .i64 (y.n : Nat)] 66)
          rw [← hW1] at hbb
          have hg1 : W1.heap[wr.heap.size]? = some (.cells #[.string y.nm, .slice Av m cv, .int .i64 (y.n : Nat)] 66 (0, 0)) := by rw [hW1]; exact heap_alloc_new wr _
          have e0 := cell_blk hg1 0; have e1 := cell_blk hg1 1; have e2 := cell_blk hg1 2
          have hbx := HBX.out _ hbb
          have i0 := cell_blk hbx 0; have i1 := cell_blk hbx 1; have i2 := cell_blk hbx 2
          simp only [List.getElem?_toArray, List.getElem?_cons_succ, List.getElem?_cons_zero] at e0 e1 e2 i0 i1 i2
          have j0 := i0
          rw [hW1] at j0
          have hoW : W1.ownsRow w1.heap.size 66 3 (.slice A' n' c') (L.filter (fun y : RF => decide (bl y.nm < bl x.nm)) ++ [x] ++ (L.take k).filter (fun y : RF => decide (bl x.nm < bl y.nm))).length ((L.filter (fun y : RF => decide (bl y.nm < bl x.nm)) ++ [x] ++ (L.take k).filter (fun y : RF => decide (bl x.nm < bl y.nm))).flatMap fcells) := own_below_f OW.out (by rw [hW1]; exact (Below.refl _ wr).alloc (Nat.le_refl _) _)
          have HBB := Lib.hid hbb; have HTK := Lib.hid htk; have HROW := Lib.hid hrow; have HOW := Lib.hid hoW; have HW1 := Lib.hid hW1; have HS1 := Lib.hid hbb.size
          have HSZ := Lib.hid (show W1.heap.size = wr.heap.size + 1 by rw [hW1, World.size_alloc])
          have hne : ¬ y.nm = x.nm := fun e => by
            have := (List.mem_filter.1 (HLD.out ▸ List.mem_of_getElem? hy : y ∈ dropR ys x.nm)).2
            simp [e] at this
          have t0 := stq_not hne
          have t1 := less_t y.nm x.nm
          have HNE := Lib.hid hne; clear hne
          clear hcl hy hyv hm htk hone hrow hbb hoW hg1 hW1 hbx
          by_cases hn : bl x.nm < bl y.nm
          · rw [decide_eq_false (ltB_asymm hn)] at t1
            have t2 : (Op.bytesLess y.nm.toList x.nm.toList || y.nm.toList == x.nm.toList) = false := by rw [t1, t0]; rfl
            have hop : ∀ u, (binOp .gtr 9 (.string y.nm) (.string x.nm)).run Try.prog u = .ok (.bool true) u := fun u => by rw [gtr_text, t2]; rfl
            clear t0 t1 t2
            have HN := Lib.hid hn; clear hn
            go_wp2_with (first
              | (at_builtin; (rw [← HW1.out]; refine wpList_append_f rfl _ _ rfl w1.heap.size _ (L.filter (fun y : RF => decide (bl y.nm < bl x.nm)) ++ [x] ++ (L.take k).filter (fun y : RF => decide (bl x.nm < bl y.nm))) rfl (own_below_f HOW.out ((Below.refl _ W1).alloc (Nat.le_refl _) _)) ⟨wr.heap.size + 1, 0, none⟩ 1 y rfl (by rw [HROW.out, ← HSZ.out]; exact rd_row W1 _ 66) HONE.out (by omega) (by have := HS1.out; rw [World.size_alloc]; omega) ?_; intro v4 w4 ho4 hg4; have HO4 := Lib.hid ho4; have HB4 := Lib.hid (Below.grown (HBB.out.alloc HBB.out.size _) hg4 (by have := HS1.out; rw [World.size_alloc]; omega) (fun k hk => (HOW.out.lt k hk).1)); clear ho4 hg4))
              | fail)
            go_roundw
            case rel => exact ⟨k + 1, by go_num, by omega, (by obtain ⟨A9, c9, e9, _⟩ := own_rd_f HO4.out; exact ⟨_, _, _, e9⟩), (show Aside _ from by rw [HTK.out, if_pos (by simpa using HN.out), ← List.append_assoc]; exact HO4.out), HB4.out⟩
            case measure => simp [intOf]; omega
          · rw [decide_eq_true (by rcases ltB_total (bl x.nm) (bl y.nm) with h | h | h; exact absurd h hn; exact absurd (bl_inj h).symm HNE.out; exact h)] at t1
            have t2 : (Op.bytesLess y.nm.toList x.nm.toList || y.nm.toList == x.nm.toList) = true := by rw [t1]; rfl
            have hop : ∀ u, (binOp .gtr 9 (.string y.nm) (.string x.nm)).run Try.prog u = .ok (.bool false) u := fun u => by rw [gtr_text, t2]; rfl
            clear t0 t1 t2
            have HN := Lib.hid hn; clear hn
            go_wp2_with fail
            rw [← HW1.out]
            go_roundw
            case rel => exact ⟨k + 1, by go_num, by omega, ⟨_, _, _, rfl⟩, (show Aside _ from by rw [HTK.out, if_neg (by simpa using HN.out)]; exact HOW.out), HBB.out⟩
            case measure => simp [intOf]; omega
        · obtain rfl : k = L.length := by omega
          rw [List.take_length, ← HPUT.out] at OW
          have hpp := HB.out _ BW.out
          have f0 := cell_blk hpp 0; have f1 := cell_blk hpp 1; have q1 := free_blk hpp 1
          simp only [List.getElem?_toArray, List.getElem?_cons_succ, List.getElem?_cons_zero] at f0 f1
          have hb9 : Below w1.heap.size w1 wr := BW.out
          have hs1 : W0.heap.size ≤ w1.heap.size := HM1.out.size
          have hbw : Below w.heap.size w wr → True := fun _ => trivial
          have hat : ∀ y ∈ putR ys x, BytesAt wr y.v y.bs ∧ ((∃ z ∈ ys, y.v.ownBlock = z.v.ownBlock) ∨ ∀ g, y.v.ownBlock = some g → x.v.ownBlock = some g) := fun y hy => by
            rcases HMEM.out y hy with rfl | hm
            · exact ⟨HX1.out.moved fun g hg => hb9.block g (HX1.out.lt hg), .inr fun g hg => hg⟩
            · exact ⟨(HR1.out.at_ y hm).moved fun g hg => hb9.block g ((HR1.out.at_ y hm).lt hg), .inl ⟨y, (List.mem_filter.1 (HLD.out ▸ hm)).1, rfl⟩⟩
          have hfin : RefOut w p room fv ys (putR ys x) (fun g => x.v.ownBlock = some g) (wr.setCell ⟨p, 1, none⟩ (.slice A' n' c')) := by
            refine ⟨_, ⟨set_box1 hpp, own_moved (OW.out.lower (Nat.zero_le _)) (fun g hg => set_other _ _ _ _ fun e => by have := (OW.out.lt g hg).1; omega), fun y hy => (hat y hy).1.moved fun g hg => set_other _ _ _ _ fun e => (hat y hy).1.ne hpp (by decide) (by rw [← e]; exact hg), ⟨HFIT.out.1, H.out.fits.2.1, HFIT.out.2⟩, fun y hy => ?_⟩, ?_, fun k hk => ?_⟩
            · rcases HMEM.out y hy with rfl | hm
              · exact HXE.out
              · exact HR1.out.each y hm
            · have m0 : Mv (fun k => k = p) w W0 := ⟨HB0.out.os, HB0.out.tape, HB0.out.output, HB0.out.size, fun k hk _ => HB0.out.block k hk⟩
              have m1 : Mv (fun k => k = p) w w1 := m0.trans HM1.out (fun _ _ h => h)
              have m2 : Mv (fun k => k = p) w wr := m1.trans (T := fun k => k = p) ⟨hb9.os, hb9.tape, hb9.output, hb9.size, fun k hk _ => hb9.block k hk⟩ (fun _ _ h => h)
              exact m2.setCell (p := ⟨p, 1, none⟩) (fun _ => rfl) _
            · rcases hk with rfl | hk | ⟨y, hy, hk⟩
              · exact .inl (.inl rfl)
              · exact .inr (.inl (Nat.le_trans HB0.out.size (Nat.le_trans hs1 (OW.out.lt k hk).1)))
              · rcases (hat y hy).2 with ⟨z, hz, e⟩ | hg
                · exact .inl (.inr (.inr ⟨z, hz, by rw [← e]; exact hk⟩))
                · exact .inr (.inr (hg k hk))
          have HF := Lib.hid hfin
          clear hfin hat hpp hbw
          go_wp2
          go_end0
          exact ⟨rfl, HF.out⟩
end
end Go.Proofs.Ytnmbjhpecblioaa
