/-
  Bytes appended and cloned; a disk's Read, Lasts, Room; New; what is a name.
-/
import Derived.Maps.AppendAt
import Derived.ArgAppend
import Derived.Lib.SliceRun
import Derived.Test.YtnmbjhpecblioaaGreatDoorDa
namespace Go.Proofs.YtnmbjhpecblioaaGreatDoor
set_option linter.unusedVariables false
set_option linter.unusedSimpArgs false
open Go.Maps Go.RowKit
theorem one_bv (xs : List UInt8) : ∀ u ∈ xs.map Bv, u.oneCell' = true := by
  intro u hu; obtain ⟨x, _, rfl⟩ := List.mem_map.1 hu; rfl
theorem own_bytes {w : World} {base n : Nat} {v : Value} {xs : List UInt8} (h : w.ownsRow base 5 1 v n (xs.map Bv)) : ∃ A c, v = .slice A xs.length c ∧ Rd w A (xs.map Bv) ∧ xs.length ≤ c := by
  have hn : n = xs.length := by have := h.1; simp at this; omega
  subst hn
  obtain ⟨A, c, e, hr, hc, _⟩ := (show BytesAt w v xs from .inl (h.lower (Nat.zero_le _))).rd
  exact ⟨A, c, e, hr, hc⟩
theorem run_append_zero (w : World) (ty : TypeId) (B : Option Addr) (n cp : Nat) (hn : n ≤ cp) (A : Option Addr) (c : Nat) : (Builtin.append_ #[29, 29] ty #[.slice B n cp, .slice A 0 c]).run Tryz.prog w = .ok (.slice B n cp) w := by
  obtain ⟨i0, hi, hz0, hz1, hz2⟩ := info_parts infoU8
  cases B <;> cases A <;> simp [Builtin.append_, run_underlying Tryz.underlying29, sizeOf, typeInfo, hi, Builtin.lenOf, Builtin.firstCells, loadCells, loadCellsFrom, hn, storeCells]
theorem run_append_bytes {w : World} {v : Value} {xs : List UInt8} (h : BytesAt w v xs) (ty : TypeId) (A : Option Addr) (c : Nat) (ys : List UInt8) (hy : Rd w A (ys.map Bv)) (hl : xs.length + ys.length ≤ 100000000) :
    ∃ v' w', (Builtin.append_ #[29, 29] ty #[v, .slice A ys.length c]).run Tryz.prog w = .ok v' w' ∧ BytesAt w' v' (xs ++ ys) ∧ w.grownBy w' v.ownBlock ∧ (∀ g, v'.ownBlock = some g → v.ownBlock = some g ∨ w.heap.size ≤ g) := by
  obtain ⟨i0, hi, hz0, hz1, hz2⟩ := info_parts infoU8
  cases ys with
  | nil =>
    obtain ⟨B, cp, rfl, -, hc, -⟩ := h.rd
    exact ⟨_, w, run_append_zero w ty B xs.length cp hc A c, by rw [List.append_nil]; exact h, ⟨rfl, rfl, rfl, Nat.le_refl _, fun _ _ _ => rfl⟩, fun g hg => .inl hg⟩
  | cons y ys =>
    obtain ⟨b, off, rfl, -⟩ := hy 0 (Bv y) rfl
    generalize hyy : y :: ys = zs at *
    rcases h with h | ⟨a, rfl, hr, cs, hb⟩
    · obtain ⟨v', w', hrun, r1, r2, _, r3⟩ := run_append_own_at (P := Tryz.prog) w 0 29 ty 5 i0 (.int .u8 0) 1 1 Tryz.underlying29 hi hz0 hz1 hz2 rfl (by decide) v xs.length (xs.map Bv) h ⟨b, off, none⟩ zs.length c (zs.map Bv) (by simp) (rd_cells hy) (one_bv zs) (by unfold maxLen; omega) (by omega) (Nat.zero_le _)
      exact ⟨v', w', hrun, .inl (by rw [List.length_append, List.map_append]; exact r1), r2, fun g hg => by
        rcases r3 with e | e
        · exact .inl (e ▸ hg)
        · rw [e] at hg; injection hg with hg; exact .inr (by omega)⟩
    · have hz : 0 < zs.length := by rw [← hyy]; simp
      obtain ⟨v', w', hrun, r1, r2⟩ := run_append_arg_grows (P := Tryz.prog) w 29 ty 5 i0 (.int .u8 0) 1 1 Tryz.underlying29 hi hz0 hz1 hz2 rfl (by decide) a xs.length xs.length (xs.map Bv) (by simp) (rd_cells hr) ⟨b, off, none⟩ zs.length c (zs.map Bv) (by simp) (rd_cells hy) (by omega) (by unfold maxLen; omega) (by omega)
      refine ⟨v', w', hrun, .inl (by rw [List.length_append, List.map_append]; exact r1.lower (Nat.zero_le _)), r2.but _, fun g hg => .inr (r1.lt g hg).1⟩
theorem wpList_append_bytes {w : World} {ops : Array Oper} {rest : List Oper} {o : Oper} {a : Act} {Q : Exit → Act → World → Prop} (hgd : o.guard = none) (s x : Operand)
    (ho : o.op = .call { callee := .builtin .append, args := #[s, x], argTypes := #[29, 29] })
    (v : Value) (xs : List UInt8) (hs : a.eval s = v) (hown : BytesAt w v xs) (A : Option Addr) (c : Nat) (ys : List UInt8) (hx : a.eval x = .slice A ys.length c) (hy : Rd w A (ys.map Bv)) (hl : xs.length + ys.length ≤ 100000000)
    (h : ∀ v' w', BytesAt w' v' (xs ++ ys) → w.grownBy w' v.ownBlock → (∀ g, v'.ownBlock = some g → v.ownBlock = some g ∨ w.heap.size ≤ g) → wpList Tryz.prog ops Q rest (a.put o.dst v') w') : wpList Tryz.prog ops Q (o :: rest) a w := by
  refine wpList_plain hgd fun K hK => ?_
  obtain ⟨v', w', hrun, r1, r2, r3⟩ := run_append_bytes hown o.type A c ys hy hl
  unfold Oper.wp
  simp [execOp, ho, resolve, invoke, builtin, hs, hx, hrun, Result.andThen]
  exact hK _ _ (h v' w' r1 r2 r3)
section
set_option maxHeartbeats 1600000
set_option maxRecDepth 100000
theorem bclone_any (A : Option Addr) (c : Nat) (xs : List UInt8) (w : World) (hx : Rd w A (xs.map Bv)) (hA : A = none → xs = []) (hl : xs.length ≤ 100000000) :
    Calls Tryz.prog 70 #[.slice A xs.length c] w fun e w' => ∃ A' c', e = .returned (.slice A' xs.length c') ∧ w'.ownsRow w.heap.size 5 1 (.slice A' xs.length c') xs.length (xs.map Bv) ∧ RowKit.Below w.heap.size w w' := by
  cases A with
  | none =>
    obtain rfl := hA rfl
    have heq := fun (W : World) => Go.Lib.run_eql_slice_nil (P := Tryz.prog) W 29 5 none 0 c 0 0 Tryz.underlying29
    simp only [Option.isNone_none, Option.isNone_some] at heq
    go_enter Tryz.func70, Tryz.ntmps70
    go_wp2
    go_ret
    exact ⟨none, 0, rfl, World.ownsRow_nil _ _ _ _, Below.refl _ _⟩
  | some ad =>
    have hown : (w.alloc (.cells #[] 5)).ownsRow w.heap.size 5 1 (.slice (some ⟨w.heap.size, 0, none⟩) 0 0) 0 [] := own_empty w 5
    have hbw : RowKit.Below w.heap.size w (w.alloc (.cells #[] 5)) := (RowKit.Below.refl _ w).alloc (Nat.le_refl _) _
    have HBW := Lib.hid hbw; have HX := Lib.hid (hx.alloc (.cells #[] 5)); have HO := Lib.hid hown
    clear hown hbw hx
    obtain ⟨i0, hi, hz0, hz1, hz2⟩ := info_parts infoU8
    have heq := fun (W : World) => Go.Lib.run_eql_slice_nil (P := Tryz.prog) W 29 5 (some ad) xs.length c 0 0 Tryz.underlying29
    simp only [Option.isNone_none, Option.isNone_some] at heq
    go_enter Tryz.func70, Tryz.ntmps70
    go_wp2_with (first
      | (at_builtin; go_must (refine wpList_append_rd rfl _ _ 29 rfl w.heap.size 5 i0 (.int .u8 0) 1 Tryz.underlying29 hi hz0 hz1 hz2 rfl _ 0 [] rfl HO.out (some ad) c (xs.map Bv) (by rw [List.length_map]; rfl) HX.out (one_bv xs) (by unfold maxLen; simp; omega) (by simp; omega) (by simp) ?_; intro v3 w3 own3 grow3))
      | fail)
    have hb3 : RowKit.Below w.heap.size w w3 := HBW.out.grown grow3 (by simp) (fun k h => (HO.out.lt k h).1)
    rw [List.nil_append] at own3
    have HB3 := Lib.hid hb3; clear hb3 grow3
    have HO3 := Lib.hid own3; clear own3
    go_wp2
    go_ret
    have ho := HO3.out
    obtain ⟨A', c', rfl, -⟩ := own_bytes ho
    simp only [Nat.zero_add, List.length_map] at ho
    exact ⟨A', c', rfl, ho, HB3.out⟩
/-- What a name is not found by. -/
def ReadOut (w : World) (o : Option Ent) (e : Ending) (w' : World) : Prop := match o with
  | none => e = .returned (.tuple #[.slice none 0 0, .int .i64 4]) ∧ w = w'
  | some x => ∃ A' c', e = .returned (.tuple #[.slice A' x.bs.length c', .int .i64 0]) ∧ w'.ownsRow w.heap.size 5 1 (.slice A' x.bs.length c') x.bs.length (x.bs.map Bv) ∧ RowKit.Below w.heap.size w w'
theorem len_le : ∀ {es : List Ent} {x : Ent}, x ∈ es → x.bs.length ≤ lenL (es.map val)
  | y :: r, x, h => by
    unfold lenL
    rw [List.map_cons, List.map_cons, List.sum_cons]
    rcases List.mem_cons.1 h with rfl | h
    · show x.bs.length ≤ x.bs.length + _
      omega
    · have := len_le h
      unfold lenL at this
      omega
section
variable {w : World} {db mb room : Nat} {es : List Ent}
theorem DiskE.len (h : DiskE w db mb room es) {x : Ent} (hx : x ∈ es) : x.bs.length ≤ 16777216 := Nat.le_trans (len_le hx) (Nat.le_trans h.fits.1 h.fits.2.1)
theorem dread_any (h : DiskE w db mb room es) (s : ByteArray) (hs : s.size ≤ maxLen) : Calls Tryz.prog 36 #[.pointer (some ⟨db, 0, none⟩), .string s] w (ReadOut w (lookE es s)) := by
  have HF := Lib.hid (find_any h s hs)
  cases hl : lookE es s with
  | none =>
    rw [hl] at HF
    simp only [findV] at HF
    unfold ReadOut
    go_enter Tryz.func36, Tryz.ntmps36
    go_wp2_with (first
      | (go_at_call 60; refine HF.out.mono ?_; rintro e w1 ⟨rfl, rfl⟩)
      | fail)
    go_ret2
    exact ⟨rfl, rfl⟩
  | some x =>
    rw [hl] at HF
    simp only [findV] at HF
    unfold ReadOut
    obtain ⟨hm, -⟩ := lookE_mem hl
    obtain ⟨hb, hv⟩ := h.at_ x hm
    obtain ⟨A, c, e1, hr, hc, hA⟩ := hv.rd
    have c0 := cell_blk hb 0; have c1 := cell_blk hb 1
    simp only [List.getElem?_toArray, List.getElem?_cons_succ, List.getElem?_cons_zero] at c0 c1
    rw [e1] at c0
    have HCL := Lib.hid (bclone_any A c x.bs w hr (fun e => by have := hA e; exact List.eq_nil_of_length_eq_zero (by omega)) (by have := h.len hm; omega))
    clear hl hm hb hv e1 hr hc hA
    go_enter Tryz.func36, Tryz.ntmps36
    go_wp2_with (first
      | (go_at_call 60; refine HF.out.mono ?_; rintro e w1 ⟨rfl, rfl⟩)
      | (go_at_call 70; refine HCL.out.mono ?_; rintro e w2 ⟨A', c', rfl, ho, hb2⟩)
      | fail)
    go_ret2
    exact ⟨A', c', rfl, ho, hb2⟩
theorem dlasts_any (h : DiskE w db mb room es) (s : ByteArray) (hs : s.size ≤ maxLen) : Calls Tryz.prog 49 #[.pointer (some ⟨db, 0, none⟩), .string s] w fun e w' => e = .returned (match lookE es s with | none => .tuple #[.int .i64 0, .int .i64 4] | some x => .tuple #[.int .i64 (x.n : Nat), .int .i64 0]) ∧ w = w' := by
  have HF := Lib.hid (find_any h s hs)
  cases hl : lookE es s with
  | none =>
    rw [hl] at HF
    simp only [findV] at HF
    go_enter Tryz.func49, Tryz.ntmps49
    go_wp2_with (first
      | (go_at_call 60; refine HF.out.mono ?_; rintro e w1 ⟨rfl, rfl⟩)
      | fail)
    go_ret2
    exact ⟨rfl, rfl⟩
  | some x =>
    rw [hl] at HF
    simp only [findV] at HF
    obtain ⟨hm, -⟩ := lookE_mem hl
    obtain ⟨hb, -⟩ := h.at_ x hm
    have c0 := cell_blk hb 0; have c1 := cell_blk hb 1
    simp only [List.getElem?_toArray, List.getElem?_cons_succ, List.getElem?_cons_zero] at c0 c1
    clear hl hm hb
    go_enter Tryz.func49, Tryz.ntmps49
    go_wp2_with (first
      | (go_at_call 60; refine HF.out.mono ?_; rintro e w1 ⟨rfl, rfl⟩)
      | fail)
    go_ret2
    exact ⟨rfl, rfl⟩
theorem droom_any (h : DiskE w db mb room es) : Calls Tryz.prog 99 #[.pointer (some ⟨db, 0, none⟩)] w fun e w' => e = .returned (.int .i64 (room : Nat)) ∧ w = w' := by
  have HM := Lib.hid (made_any h.box)
  have c0 := cell_blk h.box 0; have c1 := cell_blk h.box 1
  simp only [List.getElem?_toArray, List.getElem?_cons_succ, List.getElem?_cons_zero] at c0 c1
  go_enter Tryz.func99, Tryz.ntmps99
  go_wp2_with (first
    | (go_at_call 51; refine HM.out.mono ?_; rintro e w1 ⟨rfl, rfl⟩)
    | fail)
  go_ret
  exact ⟨rfl, rfl⟩
end
theorem diskE_new (w : World) (room : Nat) (hr : room ≤ 16777216) : DiskE ((w.alloc (.map #[] 0)).alloc (.cells #[.map (some w.heap.size), .int .i64 (room : Nat)] 72)) (w.heap.size + 1) w.heap.size room [] where
  box := by have := heap_alloc_new (w.alloc (.map #[] 0)) (.cells #[.map (some w.heap.size), .int .i64 (room : Nat)] 72); rwa [World.size_alloc] at this
  map := by have := World.ownsMap_made (H := Unit) w Tryz.prog 9 ptrE; exact this.alloc _
  srt := List.Pairwise.nil
  at_ e he := by simp at he
  apart e he := by simp at he
  fits := ⟨by simp [lenL], hr, by simp⟩
  each e he := by simp at he
theorem dnew_any (room : Int) (w : World) (hr : 0 ≤ room ∧ room ≤ 16777216) : Calls Tryz.prog 26 #[.int .i64 room] w fun e w' => e = .returned (.tuple #[.pointer (some ⟨w.heap.size + 1, 0, none⟩), .int .i64 0]) ∧ DiskE w' (w.heap.size + 1) w.heap.size room.toNat [] ∧ RowKit.Below w.heap.size w w' := by
  obtain ⟨r, rfl⟩ : ∃ r : Nat, room = r := ⟨room.toNat, by omega⟩
  have HD := Lib.hid (diskE_new w r (by omega))
  have HB := Lib.hid ((((RowKit.Below.refl _ w).alloc (Nat.le_refl _) (.map #[] 0)).alloc (by simp) (.cells #[.map (some w.heap.size), .int .i64 (r : Nat)] 72) : RowKit.Below w.heap.size w _))
  have hmm := @run_makeMap Tryz.prog
  have k0 : ¬ (r : Int) < 0 := by omega
  have k1 : ¬ (16777216 : Int) < (r : Int) := by omega
  go_enter Tryz.func26, Tryz.ntmps26
  go_wp2
  go_ret2
  exact ⟨rfl, HD.out, HB.out⟩
theorem dnew_bad (room : Int) (w : World) (hr : room < 0 ∨ 16777216 < room) : Calls Tryz.prog 26 #[.int .i64 room] w fun e w' => e = .returned (.tuple #[.pointer none, .int .i64 1]) ∧ w = w' := by
  by_cases k0 : room < 0
  · go_enter Tryz.func26, Tryz.ntmps26
    go_wp2
    go_ret2
    exact ⟨rfl, rfl⟩
  · have k1 : (16777216 : Int) < room := by omega
    go_enter Tryz.func26, Tryz.ntmps26
    go_wp2
    go_ret2
    exact ⟨rfl, rfl⟩
end
end Go.Proofs.YtnmbjhpecblioaaGreatDoor
