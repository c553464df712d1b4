/-
  The plain answers' disk in memory; where a file is; how many bytes there are.
-/
import Derived.Test.YtnmbjhpecblioaaDq
import Derived.Test.YtnmbjhpecblioaaRfm
namespace Go.Proofs.Ytnmbjhpecblioaa
set_option linter.unusedVariables false
set_option linter.unusedSimpArgs false
open Go.RowKit
theorem stq_is {a b : ByteArray} (h : a = b) : (a.toList == b.toList) = true := by rw [h]; exact beq_self_eq_true _
theorem stq_not {a b : ByteArray} (h : ¬ a = b) : (a.toList == b.toList) = false := by
  rw [beq_eq_false_iff_ne, toList_bl, toList_bl]
  exact fun e => h (bl_inj e)
structure RF where
  nm : ByteArray
  v : Value
  bs : List UInt8
  n : Nat
def rval (y : RF) : Fl := (y.nm, y.bs, y.n)
def fcells (y : RF) : List Value := [.string y.nm, y.v, .int .i64 (y.n : Nat)]
theorem fcells_len (y : RF) : (fcells y).length = 3 := rfl
theorem fcells_all (l : List RF) : (l.flatMap fcells).length = l.length * 3 := flat_len fcells_len l
structure RefE (w : World) (p room : Nat) (fv : Value) (ys : List RF) : Prop where
  box : w.heap[p]? = some (.cells #[.int .i64 (room : Nat), fv] 31 (0, 0))
  row : w.ownsRow 0 66 3 fv ys.length (ys.flatMap fcells)
  at_ : ∀ y ∈ ys, BytesAt w y.v y.bs
  fits : lenL (ys.map rval) ≤ room ∧ room ≤ 16777216 ∧ ys.length ≤ 64
  each : ∀ y ∈ ys, y.n ≤ y.bs.length ∧ y.nm.size ≤ 32
def footR (p : Nat) (fv : Value) (ys : List RF) (k : Nat) : Prop := k = p ∨ fv.ownBlock = some k ∨ ∃ y ∈ ys, y.v.ownBlock = some k
theorem RefE.lt {w : World} {p room : Nat} {fv : Value} {ys : List RF} (h : RefE w p room fv ys) {k : Nat} (hk : footR p fv ys k) : k < w.heap.size := by
  rcases hk with rfl | hk | ⟨y, hy, hk⟩
  · exact blk_lt h.box
  · exact (h.row.lt k hk).2
  · exact (h.at_ y hy).lt hk
theorem RefE.moved {w w' : World} {p room : Nat} {fv : Value} {ys : List RF} (h : RefE w p room fv ys) (hk : ∀ k, footR p fv ys k → w'.heap[k]? = w.heap[k]?) : RefE w' p room fv ys where
  box := (hk p (.inl rfl)).trans h.box
  row := own_moved h.row fun g hg => hk g (.inr (.inl hg))
  at_ := fun y hy => (h.at_ y hy).moved fun g hg => hk g (.inr (.inr ⟨y, hy, hg⟩))
  fits := h.fits
  each := h.each
theorem RefE.below {w w' : World} {p room : Nat} {fv : Value} {ys : List RF} (h : RefE w p room fv ys) (hb : Below w.heap.size w w') : RefE w' p room fv ys := h.moved fun k hk => hb.block k (h.lt hk)
theorem own_rd_f {w : World} {B : Nat} {v : Value} {l : List RF} (h : w.ownsRow B 66 3 v l.length (l.flatMap fcells)) : ∃ A c, v = .slice A l.length c ∧ Rd w A (l.flatMap fcells) ∧ l.length ≤ c ∧ c ≤ maxLen := by
  rcases h.2 with ⟨rfl, h0⟩ | ⟨g, cap, cur, rfl, hB, hg, hnc, hcm, hcs, htk⟩
  · have : l = [] := List.eq_nil_of_length_eq_zero h0
    subst this
    exact ⟨none, 0, rfl, Rd.nil _ _, Nat.le_refl _, by decide⟩
  · refine ⟨some ⟨g, 0, none⟩, cap, rfl, fun k u hk => ?_, hnc, hcm⟩
    have := h.cells (g := g) rfl k u hk
    have hadd : (⟨g, 0, none⟩ : Addr).add k = ⟨g, k, none⟩ := by unfold Addr.add; split <;> simp_all
    exact ⟨g, 0, rfl, by rw [hadd] at this; simpa using this⟩
section
set_option maxHeartbeats 1600000
set_option maxRecDepth 100000
variable {w : World} {p room : Nat} {fv : Value} {ys : List RF}
theorem rat_any (h : RefE w p room fv ys) (s : ByteArray) : Calls Try.prog 37 #[.pointer (some ⟨p, 0, none⟩), .string s] w fun e w' =>
    ((e = .returned (.int .i64 (-1)) ∧ ∀ y ∈ ys, y.nm ≠ s) ∨ ∃ (k : Nat) (y : RF), ys[k]? = some y ∧ y.nm = s ∧ e = .returned (.int .i64 (k : Nat))) ∧ Below w.heap.size w w' := by
  have hl := h.fits.2.2
  have hv : ∀ y ∈ ys, ∃ A c, y.v = .slice A y.bs.length c := fun y hy => by obtain ⟨A, c, e, _⟩ := (h.at_ y hy).rd; exact ⟨A, c, e⟩
  have HV := Lib.hid hv
  obtain ⟨A, c, rfl, hr, hc1, hc2⟩ := own_rd_f h.row
  unfold maxLen at hc2
  have HR := Lib.hid hr
  have c0 := cell_blk h.box 0; have c1 := cell_blk h.box 1
  simp only [List.getElem?_toArray, List.getElem?_cons_succ, List.getElem?_cons_zero] at c0 c1
  clear hr h hv
  go_enter Try.func37, Try.ntmps37
  go_wp2
  go_loopw [12] (fun s12 wr => ∃ k : Nat, s12 = .int .i64 k ∧ k ≤ ys.length ∧ Aside (∀ y ∈ ys.take k, y.nm ≠ s) ∧ Aside (Below w.heap.size w wr)) (fun s12 _ => ys.length - (intOf s12).toNat)
  case atStart => exact ⟨0, rfl, by omega, fun y hy => by simp at hy, Below.refl _ _⟩
  case round =>
    obtain ⟨k, rfl, hk, AL, BW⟩ := hrel
    have k0 : (0 : Int) ≤ (k : Int) := by omega
    by_cases hlt : k < ys.length
    · have k1 : (k : Int) < (ys.length : Int) := by omega
      have k2 : (k : Int) ≤ (c : Int) := by omega
      obtain ⟨y, hy⟩ : ∃ y, ys[k]? = some y := ⟨_, List.getElem?_eq_getElem hlt⟩
      obtain ⟨b, off, rfl, hcl⟩ := (HR.out.below BW.out).flat fcells_len (by decide) hy
      have d0 := hcl 0 _ rfl; have d1 := hcl 1 _ rfl; have d2 := hcl 2 _ rfl
      rw [Nat.add_zero] at d0
      obtain ⟨A', c', hyv⟩ := HV.out y (List.mem_of_getElem? hy)
      rw [hyv] at d1
      obtain ⟨m, hm⟩ : ∃ m, m = y.bs.length := ⟨_, rfl⟩
      rw [← hm] at d1
      have HBB := Lib.hid (BW.out.alloc BW.out.size (.cells #[.string y.nm, .slice A' m c', .int .i64 (y.n : Nat)] 66))
      have HY := Lib.hid hy
      have hal : y.nm ≠ s → ∀ x ∈ ys.take (k + 1), x.nm ≠ s := fun hne x hx => by
        obtain ⟨h1, h2⟩ := List.getElem?_eq_some_iff.1 hy
        rw [List.take_succ_eq_append_getElem h1, h2] at hx
        rcases List.mem_append.1 hx with hx | hx
        · exact AL.out x hx
        · rw [List.mem_singleton] at hx; rw [hx]; exact hne
      have HAL := Lib.hid hal
      clear hal hcl hy hyv hm
      by_cases hn : y.nm = s
      · have t1 := stq_is hn
        have HN := Lib.hid hn; clear hn
        go_wp2_with fail
        go_ret
        exact ⟨.inr ⟨k, y, HY.out, HN.out, rfl⟩, HBB.out⟩
      · have t1 := stq_not hn
        have HN := Lib.hid hn; clear hn
        go_wp2_with fail
        go_roundw
        case rel => exact ⟨k + 1, by go_num, by omega, HAL.out HN.out, HBB.out⟩
        case measure => simp [intOf]; omega
    · obtain rfl : k = ys.length := by omega
      have HA := Lib.hid AL.out; have HB := Lib.hid BW.out
      go_wp2
      go_ret
      exact ⟨.inl ⟨rfl, fun y hy => HA.out y (by rw [List.take_length]; exact hy)⟩, HB.out⟩
theorem lenL_take {L : List Fl} {k : Nat} {f : Fl} (h : L[k]? = some f) : lenL (L.take (k + 1)) = lenL (L.take k) + f.2.1.length := by
  obtain ⟨h1, h2⟩ := List.getElem?_eq_some_iff.1 h
  unfold lenL
  rw [List.take_succ_eq_append_getElem h1, h2]; simp
theorem lenL_take_le (L : List Fl) (k : Nat) : lenL (L.take k) ≤ lenL L := lenL_sub (List.take_sublist k L)
theorem rdsize_any (h : RefE w p room fv ys) : Calls Try.prog 34 #[.pointer (some ⟨p, 0, none⟩)] w fun e w' => e = .returned (.int .i64 (lenL (ys.map rval) : Nat)) ∧ Below w.heap.size w w' := by
  have hl := h.fits.2.2
  have hsum : lenL (ys.map rval) ≤ 16777216 := Nat.le_trans h.fits.1 h.fits.2.1
  have hv : ∀ y ∈ ys, ∃ A c, y.v = .slice A y.bs.length c := fun y hy => by obtain ⟨A, c, e, _⟩ := (h.at_ y hy).rd; exact ⟨A, c, e⟩
  have HV := Lib.hid hv
  obtain ⟨A, c, rfl, hr, hc1, hc2⟩ := own_rd_f h.row
  unfold maxLen at hc2
  have HR := Lib.hid hr
  have c0 := cell_blk h.box 0; have c1 := cell_blk h.box 1
  simp only [List.getElem?_toArray, List.getElem?_cons_succ, List.getElem?_cons_zero] at c0 c1
  clear hr h hv
  go_enter Try.func34, Try.ntmps34
  go_wp2
  go_loopw [3, 11] (fun s3 s11 wr => ∃ k : Nat, s11 = .int .i64 k ∧ k ≤ ys.length ∧ s3 = .int .i64 (lenL ((ys.map rval).take k) : Nat) ∧ Aside (Below w.heap.size w wr)) (fun _ s11 _ => ys.length - (intOf s11).toNat)
  case atStart => exact ⟨0, rfl, by omega, rfl, Below.refl _ _⟩
  case round =>
    obtain ⟨k, rfl, hk, rfl, BW⟩ := hrel
    have k0 : (0 : Int) ≤ (k : Int) := by omega
    by_cases hlt : k < ys.length
    · have k1 : (k : Int) < (ys.length : Int) := by omega
      have k2 : (k : Int) ≤ (c : Int) := by omega
      obtain ⟨y, hy⟩ : ∃ y, ys[k]? = some y := ⟨_, List.getElem?_eq_getElem hlt⟩
      obtain ⟨b, off, rfl, hcl⟩ := (HR.out.below BW.out).flat fcells_len (by decide) hy
      have d0 := hcl 0 _ rfl; have d1 := hcl 1 _ rfl; have d2 := hcl 2 _ rfl
      rw [Nat.add_zero] at d0
      have hlk : (ys.map rval)[k]? = some (rval y) := by rw [List.getElem?_map, hy]; rfl
      have htk := lenL_take hlk
      have hle := lenL_take_le (ys.map rval) (k + 1)
      obtain ⟨A', c', hyv⟩ := HV.out y (List.mem_of_getElem? hy)
      obtain ⟨nm, v, bs, n⟩ := y
      simp only at hyv d0 d1 d2
      subst hyv
      have HBB := Lib.hid (BW.out.alloc BW.out.size (.cells #[.string nm, .slice A' bs.length c', .int .i64 (n : Nat)] 66))
      rw [show (rval ⟨nm, .slice A' bs.length c', bs, n⟩).2.1.length = bs.length from rfl] at htk
      rw [htk] at hle
      have HTK := Lib.hid htk
      clear hcl hy hlk htk
      generalize lenL ((ys.map rval).take k) = S at *
      go_wp2_with fail
      go_roundw
      case rel => exact ⟨k + 1, by go_num, by omega, by rw [HTK.out]; go_num, HBB.out⟩
      case measure => simp [intOf]; omega
    · obtain rfl : k = ys.length := by omega
      have HB := Lib.hid BW.out
      have he : (ys.map rval).take ys.length = ys.map rval := by rw [← List.length_map (f := rval), List.take_length]
      rw [he]
      go_wp2
      go_ret
      exact ⟨rfl, HB.out⟩
end
end Go.Proofs.Ytnmbjhpecblioaa
