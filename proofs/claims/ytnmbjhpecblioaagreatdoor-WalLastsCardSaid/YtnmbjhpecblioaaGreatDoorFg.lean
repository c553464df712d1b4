/-
  The frame that bytes begin with.
-/
import Derived.Test.YtnmbjhpecblioaaGreatDoorFs
import Derived.Test.YtnmbjhpecblioaaGreatDoorShelf
namespace Go.Proofs.YtnmbjhpecblioaaGreatDoor
set_option linter.unusedVariables false
set_option linter.unusedSimpArgs false
open Go.RowKit

/-- Four bytes as a number, the lowest one first. -/
def le4 (a b c d : Nat) : Nat := a + b * 256 + c * 65536 + d * 16777216
theorem le4_low {a b c d : UInt8} {m : Nat} (hm : m < 4294967296) : le4 a.toNat b.toNat c.toNat d.toNat = m ↔ [a, b, c, d] = low4 m := by
  have h0 := a.toNat_lt
  have h1 := b.toNat_lt
  have h2 := c.toNat_lt
  have h3 := d.toNat_lt
  simp only [low4, List.cons.injEq, ← UInt8.toNat_inj, UInt8.toNat_ofNat', and_true]
  unfold le4
  constructor
  · intro h; refine ⟨?_, ?_, ?_, ?_⟩ <;> omega
  · rintro ⟨h0, h1, h2, h3⟩; omega
theorem le4_lt {a b c d : UInt8} : le4 a.toNat b.toNat c.toNat d.toNat < 4294967296 := by
  have h0 := a.toNat_lt
  have h1 := b.toNat_lt
  have h2 := c.toNat_lt
  have h3 := d.toNat_lt
  unfold le4; omega
theorem or_le4 {a b c d : Nat} (h0 : a < 256) (h1 : b < 256) (h2 : c < 256) (h3 : d < 256) :
    bits .or .u32 (bits .or .u32 (bits .or .u32 (a : Int) ((b : Int) * 256)) ((c : Int) * 65536)) ((d : Int) * 16777216) = ((le4 a b c d : Nat) : Int) := by
  have e1 : (b : Int) * 256 = ((b * 256 : Nat) : Int) := rfl
  have e2 : (c : Int) * 65536 = ((c * 65536 : Nat) : Int) := rfl
  have e3 : (d : Int) * 16777216 = ((d * 16777216 : Nat) : Int) := rfl
  have f1 : a ||| b * 256 = a + b * 256 := or_beside a b 8 (by omega)
  have f2 : (a + b * 256) ||| c * 65536 = a + b * 256 + c * 65536 := or_beside (a + b * 256) c 16 (by omega)
  have f3 : (a + b * 256 + c * 65536) ||| d * 16777216 = a + b * 256 + c * 65536 + d * 16777216 := or_beside _ d 24 (by omega)
  rw [e1, u32_or_nat _ _ (by omega) (by omega), f1, e2, u32_or_nat _ _ (by omega) (by omega), f2, e3, u32_or_nat _ _ (by omega) (by omega), f3]
  rfl

/-- What the frame that bytes begin with tells: its bytes, how many it has, the error's number. -/
def getF (xs : List UInt8) : List UInt8 × Nat × Nat :=
  if (uvS 0 0 xs).2.2 ≠ 0 then ([], 0, (uvS 0 0 xs).2.2)
  else if 1048576 < (uvS 0 0 xs).1 then ([], 0, 3)
  else if xs.length < (uvS 0 0 xs).2.1 + (uvS 0 0 xs).1 + 4 then ([], 0, 6)
  else if (xs.drop ((uvS 0 0 xs).2.1 + (uvS 0 0 xs).1)).take 4 = low4 (maskN (crc 0 (xs.take ((uvS 0 0 xs).2.1 + (uvS 0 0 xs).1)))) then ((xs.drop (uvS 0 0 xs).2.1).take (uvS 0 0 xs).1, (uvS 0 0 xs).2.1 + (uvS 0 0 xs).1 + 4, 0)
  else ([], 0, 20)

theorem getF_len (xs : List UInt8) : (getF xs).1.length ≤ xs.length := by
  unfold getF
  split
  · simp
  · split
    · simp
    · split
      · simp
      · split
        · simp only [List.length_take, List.length_drop]; omega
        · simp

theorem Rd.dropf {w : World} {b off : Nat} {xs : List Value} (h : Rd w (some ⟨b, off, none⟩) xs) (k : Nat) : Rd w (some ⟨b, off + k, none⟩) (xs.drop k) := by
  intro j v hj
  rw [List.getElem?_drop] at hj
  obtain ⟨b', off', e, hc⟩ := h (k + j) v hj
  injection e with e; injection e with e1 e2
  subst e1 e2
  exact ⟨b, off + k, rfl, by rw [Nat.add_assoc]; exact hc⟩

theorem four_at {w : World} {A : Option Addr} {xs : List UInt8} {E : Nat} (hx : Rd w A (xs.map Bv)) (h : E + 4 ≤ xs.length) :
    ∃ b off x0 x1 x2 x3 : Nat, A = some ⟨b, off, none⟩ ∧ w.cell? ⟨b, off + E, none⟩ = some (.int .u8 (x0 : Int)) ∧ w.cell? ⟨b, off + (E + 1), none⟩ = some (.int .u8 (x1 : Int)) ∧
      w.cell? ⟨b, off + (E + 2), none⟩ = some (.int .u8 (x2 : Int)) ∧ w.cell? ⟨b, off + (E + 3), none⟩ = some (.int .u8 (x3 : Int)) ∧ x0 < 256 ∧ x1 < 256 ∧ x2 < 256 ∧ x3 < 256 ∧
      ∀ m, m < 4294967296 → ((xs.drop E).take 4 = low4 m ↔ le4 x0 x1 x2 x3 = m) := by
  have h0 : E < xs.length := by omega
  have h1 : E + 1 < xs.length := by omega
  have h2 : E + 2 < xs.length := by omega
  have h3 : E + 3 < xs.length := by omega
  obtain ⟨b, off, hA, q0⟩ := hx.byte h0
  subst hA
  obtain ⟨b1, off1, hA, q1⟩ := hx.byte h1
  injection hA with hA; injection hA with e1 e2; subst e1 e2
  obtain ⟨b1, off1, hA, q2⟩ := hx.byte h2
  injection hA with hA; injection hA with e1 e2; subst e1 e2
  obtain ⟨b1, off1, hA, q3⟩ := hx.byte h3
  injection hA with hA; injection hA with e1 e2; subst e1 e2
  refine ⟨b, off, _, _, _, _, rfl, q0, q1, q2, q3, xs[E].toNat_lt, xs[E + 1].toNat_lt, xs[E + 2].toNat_lt, xs[E + 3].toNat_lt, fun m hm => ?_⟩
  rw [le4_low hm, List.drop_eq_getElem_cons h0, List.drop_eq_getElem_cons h1, List.drop_eq_getElem_cons h2, List.drop_eq_getElem_cons h3]
  rfl

section
set_option maxHeartbeats 1600000
set_option maxRecDepth 100000
theorem fclone_any (w : World) (A : Option Addr) (c : Nat) (xs : List UInt8) (hx : Rd w A (xs.map Bv)) (hl : xs.length ≤ 140737488351232) :
    Calls Tryz.prog 117 #[.slice A xs.length c] w fun e w' => ∃ v, e = .returned v ∧ w'.ownsRow w.heap.size 5 1 v xs.length (xs.map Bv) ∧ Below w.heap.size w w' := by
  cases A with
  | none =>
    have h0 : xs = [] := by
      cases xs with
      | nil => rfl
      | cons a r => obtain ⟨b, off, e, _⟩ := hx 0 (Bv a) rfl; cases e
    subst h0
    refine (Tryz.bytes_Clone_nil _ c w).mono ?_
    rintro e w' ⟨rfl, rfl⟩
    exact ⟨_, rfl, World.ownsRow_nil _ _ _ _, Below.refl _ _⟩
  | some ad =>
    refine (Tryz.bytes_Clone_at ad xs.length c (xs.map fun x => (x.toNat : Int)) w (by simp) (by omega) ?_).mono ?_
    · intro i hi
      have := rd_cells hx i (Bv xs[i]) (by simp [hi])
      rw [this]
      simp [Bv, hi, List.getD]
    · rintro e w' ⟨v', rfl, hown, _, hb⟩
      rw [List.map_map] at hown
      exact ⟨_, rfl, hown, hb⟩

theorem bclone_len (w : World) (A : Option Addr) (c n : Nat) (xs : List UInt8) (hn : xs.length = n) (hx : Rd w A (xs.map Bv)) (hl : xs.length ≤ 140737488351232) :
    Calls Tryz.prog 117 #[.slice A n c] w fun e w' => ∃ v, e = .returned v ∧ w'.ownsRow w.heap.size 5 1 v xs.length (xs.map Bv) ∧ Below w.heap.size w w' := by
  subst hn
  exact fclone_any w A c xs hx hl

theorem get_any (A : Option Addr) (ca : Nat) (xs : List UInt8) (w : World) (ht : StepsMet w) (hx : Rd w A (xs.map Bv)) (hc : xs.length ≤ ca) (hl : xs.length ≤ 140737488351232) (hca : ca ≤ 9223372036854775807) :
    Calls Tryz.prog 94 #[.slice A xs.length ca] w fun e w' => ∃ v, e = .returned (.tuple #[v, .int .i64 ((getF xs).2.1 : Nat), .int .i64 ((getF xs).2.2 : Nat)]) ∧
      w'.ownsRow w.heap.size 5 1 v (getF xs).1.length ((getF xs).1.map Bv) ∧ Below w.heap.size w w' := by
  have HT := Lib.hid ht; clear ht
  have hgf : getF xs = getF xs := rfl
  conv at hgf => rhs; unfold getF
  have hlt := uvS_lt (k := 0) (n := 0) (l := xs) (by omega) (by decide)
  have hle := uvS_le xs 0 0
  obtain ⟨r, hr⟩ : ∃ r, r = uvS 0 0 xs := ⟨_, rfl⟩
  rw [← hr] at hgf hlt hle
  obtain ⟨n, k, c⟩ := r
  have HR := Lib.hid hr; clear hr
  simp only at hgf hlt hle
  go_enter Tryz.func94, Tryz.ntmps94
  go_wp2_with fail
  refine (uvarint_any A ca xs w hx (by omega)).mono ?_
  rintro e w1 ⟨rfl, rfl⟩
  rw [← HR.out]
  simp only [uvT]
  by_cases h1 : c ≠ 0
  · rw [if_pos h1] at hgf
    have HG := Lib.hid hgf; clear hgf
    have h1' : ((c : Int) != 0) = true := by rw [bne_iff_ne]; omega
    clear h1
    go_wp2
    go_ret3
    exact ⟨_, by rw [HG.out]; rfl, by rw [HG.out]; exact World.ownsRow_nil _ _ _ _, Below.refl _ _⟩
  · have hc0 : c = 0 := by omega
    subst hc0
    rw [if_neg h1] at hgf
    clear h1
    by_cases h2 : 1048576 < n
    · rw [if_pos h2] at hgf
      have HG := Lib.hid hgf; clear hgf
      have h2' : decide (1048576 < (n : Int)) = true := by simp; omega
      clear h2
      go_wp2
      go_ret3
      exact ⟨_, by rw [HG.out]; rfl, by rw [HG.out]; exact World.ownsRow_nil _ _ _ _, Below.refl _ _⟩
    · rw [if_neg h2] at hgf
      have h2' : (n : Int) ≤ 1048576 := by omega
      clear h2
      by_cases h3 : xs.length < k + n + 4
      · rw [if_pos h3] at hgf
        have HG := Lib.hid hgf; clear hgf
        have h3' : decide ((xs.length : Int) < (k : Int) + (n : Int) + 4) = true := by simp; omega
        clear h3
        go_wp2
        go_ret3
        exact ⟨_, by rw [HG.out]; rfl, by rw [HG.out]; exact World.ownsRow_nil _ _ _ _, Below.refl _ _⟩
      · rw [if_neg h3] at hgf
        have h3' : (k : Int) + (n : Int) + 4 ≤ (xs.length : Int) := by omega
        clear h3
        have hE : k + n + 4 ≤ xs.length := by omega
        obtain ⟨b, off, x0, x1, x2, x3, rfl, q0, q1, q2, q3, l0, l1, l2, l3, h4⟩ := four_at (E := k + n) hx hE
        have hml := maskN_lt (crc 0 (xs.take (k + n)))
        have hcl := crc_lt (s := 0) (by decide) (xs.take (k + n))
        simp only [h4 _ hml] at hgf
        clear h4
        have hor := or_le4 l0 l1 l2 l3
        have htl : (xs.take (k + n)).length = k + n := by rw [List.length_take]; omega
        have hdl : ((xs.drop k).take n).length = n := by rw [List.length_take, List.length_drop]; omega
        have rdt := hx.bytes_take (k + n)
        have rdd : Rd w (some ⟨b, off + k, none⟩) (((xs.drop k).take n).map Bv) := by
          rw [List.map_take, List.map_drop]; exact (hx.dropf k).take n
        have HDL := Lib.hid hdl; clear hdl
        have HTL := Lib.hid htl; clear htl
        have HG := Lib.hid hgf; clear hgf
        generalize le4 x0 x1 x2 x3 = v4 at *
        obtain ⟨ys, hys⟩ : ∃ ys, ys = xs.take (k + n) := ⟨_, rfl⟩
        rw [← hys] at rdt HTL HG hcl hml
        have HYS := Lib.hid hys; clear hys
        obtain ⟨sm, hsm⟩ : ∃ sm, sm = crc 0 ys := ⟨_, rfl⟩
        obtain ⟨mk, hmk⟩ : ∃ mk, mk = maskN sm := ⟨_, rfl⟩
        rw [← hsm, ← hmk] at hml HG
        rw [← hsm] at hcl
        have HSM := Lib.hid hsm; clear hsm
        have HMK := Lib.hid hmk; clear hmk
        have HCL := Lib.hid hcl; clear hcl
        go_upto_region 9 with (fail)
        go_quiet (fail)
        go_wp2_with fail
        refine (sum_one (w.drewN nq) (some ⟨b, off, none⟩) ca (k + n) ys HTL.out (rdt.drewN nq) HT.out (by have := HTL.out; omega)).mono ?_
        rintro e w2 ⟨rfl, rfl⟩
        rw [← HSM.out]
        go_wp2_with fail
        refine (mask_any sm _ HCL.out).mono ?_
        rintro e w2 ⟨rfl, rfl⟩
        rw [← HMK.out]
        have hb2 : Below w.heap.size w ((w.drewN nq).alloc (.cells #[.slice (some ⟨b, off, none⟩) (k + n) ca] 29)) := (below_drewN (Below.refl _ w) nq).alloc (Nat.le_refl _) _
        generalize (w.drewN nq).alloc (.cells #[.slice (some ⟨b, off, none⟩) (k + n) ca] 29) = w2 at *
        by_cases h5 : v4 = mk
        · have hg := HG.out
          rw [if_pos h5] at hg
          have HG2 := Lib.hid hg; clear hg HG
          have h5' : ((v4 : Int) != (mk : Int)) = false := by rw [bne_eq_false_iff_eq]; omega
          have rd2 := rdd.below hb2
          obtain ⟨zs, hzs⟩ : ∃ zs, zs = (xs.drop k).take n := ⟨_, rfl⟩
          rw [← hzs] at rd2 HDL HG2
          have hzl : zs.length = n := HDL.out
          clear rdd rdt hzs h5
          have HZL := Lib.hid hzl; clear hzl
          go_wp2_with fail
          refine (bclone_len w2 _ _ n zs HZL.out rd2 (by have := HZL.out; omega)).mono ?_
          rintro e w3 ⟨v, rfl, hown, hb3⟩
          go_wp2
          go_ret3
          refine ⟨v, by rw [HG2.out]; rfl, ?_, hb2.trans (hb3.mono hb2.size)⟩
          rw [HG2.out]
          exact hown.lower hb2.size
        · have hg := HG.out
          rw [if_neg h5] at hg
          have HG2 := Lib.hid hg; clear hg HG
          have h5' : ((v4 : Int) != (mk : Int)) = true := by rw [bne_iff_ne]; omega
          clear h5
          go_wp2
          go_ret3
          exact ⟨_, by rw [HG2.out]; rfl, by rw [HG2.out]; exact World.ownsRow_nil _ _ _ _, hb2⟩
theorem get_len (A : Option Addr) (ca len : Nat) (xs : List UInt8) (w : World) (hlen : xs.length = len) (ht : StepsMet w) (hx : Rd w A (xs.map Bv)) (hc : len ≤ ca) (hl : len ≤ 140737488351232) (hca : ca ≤ 9223372036854775807) :
    Calls Tryz.prog 94 #[.slice A len ca] w fun e w' => ∃ v, e = .returned (.tuple #[v, .int .i64 ((getF xs).2.1 : Nat), .int .i64 ((getF xs).2.2 : Nat)]) ∧
      w'.ownsRow w.heap.size 5 1 v (getF xs).1.length ((getF xs).1.map Bv) ∧ Below w.heap.size w w' := by
  subst hlen
  exact get_any A ca xs w ht hx hc hl hca
end
end Go.Proofs.YtnmbjhpecblioaaGreatDoor
