/-
  A segment's name; the number that a text tells.
-/
import Derived.Lib.SmallJoins
import Derived.Lib.AtoiErrMem
import Derived.Test.YtnmbjhpecblioaaGreatDoorShelf
import Derived.Test.YtnmbjhpecblioaaGreatDoorWp
import Derived.Test.YtnmbjhpecblioaaGreatDoorFm
namespace Go.Proofs.YtnmbjhpecblioaaGreatDoor
set_option linter.unusedVariables false
set_option linter.unusedSimpArgs false
open Go.RowKit
/-- What the tables and the two errors are, of which the numbers of names hang. -/
structure TabW (w : World) : Prop where
  steps : StepsMet w
  pow : Lib.TabIs Tryz.prog w "internal/strconv.uint64pow10" .u64 Lib.pow10Tab
  syn : ∃ tp p, w.var? Tryz.prog "strconv.ErrSyntax" = some #[.iface tp p]
  rng : ∃ tp p, w.var? Tryz.prog "strconv.ErrRange" = some #[.iface tp p]
theorem TabW.below {w w' : World} (h : TabW w) (hb : Below w.heap.size w w') : TabW w' := by
  obtain ⟨h1, h2, ⟨t3, p3, h3⟩, t4, p4, h4⟩ := h
  exact ⟨h1.below hb, Joins.tab_stays (g := 1) (by kernel_rfl) h2 hb (Nat.le_refl _), ⟨t3, p3, Joins.var_stays (g := 3) (by kernel_rfl) h3 hb (Nat.le_refl _)⟩, t4, p4, Joins.var_stays (g := 4) (by kernel_rfl) h4 hb (Nat.le_refl _)⟩
theorem TabW.to {B : Nat} {w w' : World} (h : TabW w) (hb : Below B w w') (hB : w.heap.size ≤ B) : TabW w' := h.below (hb.mono hB)
theorem below_grow {w : World} {k : Nat} {os : Array Obj} : Below w.heap.size w (Go.Sort.grow (w.drewN k) os) :=
  ⟨rfl, rfl, rfl, by rw [Go.Sort.size_grow]; exact Nat.le_add_right _ _, fun k hk => Go.Sort.heap_grow_old _ os hk⟩
section
set_option maxHeartbeats 1600000
set_option maxRecDepth 100000
theorem atoi_any (s : ByteArray) (w : World) (hT : TabW w) (hs : s.size ≤ 1000000) : Calls Tryz.prog 90 #[.string s] w fun e w' => (∃ v, e = .returned (.tuple #[.int .i64 (atoiV (bl s)), v])) ∧ Below w.heap.size w w' := by
  obtain ⟨t3, p3, h3⟩ := hT.syn
  obtain ⟨t4, p4, h4⟩ := hT.rng
  unfold atoiV
  cases h : Lib.atoiAll (bl s) with
  | ok v =>
    refine (Tryz.strconv_Atoi_ok s (by omega) v h w).mono ?_
    rintro e w' ⟨rfl, rfl | ⟨t, rfl⟩⟩
    · exact ⟨⟨_, rfl⟩, Below.refl _ _⟩
    · exact ⟨⟨_, rfl⟩, Lib.bytesWorld_below _ _ _⟩
  | «syntax» =>
    refine (Tryz.strconv_Atoi_syntax_var s (by omega) h t3 p3 w h3).mono ?_
    rintro e w' ⟨N, rfl, -, -, hb⟩
    exact ⟨⟨_, rfl⟩, hb⟩
  | range =>
    refine (Tryz.strconv_Atoi_range_var s (by omega) h t4 p4 w h4).mono ?_
    rintro e w' ⟨N, rfl, -, -, hb⟩
    exact ⟨⟨_, rfl⟩, hb⟩
theorem trim_any (s : ByteArray) (w : World) : Calls Tryz.prog 91 #[.string s, .string ⟨#[119, 97, 108, 46]⟩] w fun e w' => e = .returned (.string (mkB (Lib.trimPrefix (bl s) wpre))) ∧ w' = w := Tryz.strings_TrimPrefix s _ w
theorem mkB_app (a b : Bs) : mkB a ++ mkB b = mkB (a ++ b) := by
  apply bl_inj
  rw [bl_mk]
  simp [bl, mkB]
theorem title_any (n : Int) (h0 : -9223372036854775808 ≤ n) (h1 : n ≤ 9223372036854775807) (w : World) (hT : TabW w) : Calls Tryz.prog 12 #[.int .i64 n] w fun e w' => e = .returned (.string (titleN n)) ∧ Below w.heap.size w w' := by
  have HT := Lib.hid hT; clear hT
  by_cases hb : n < 1 ∨ 99999999 < n
  · have ht : titleN n = ⟨#[]⟩ := by unfold titleN; rw [if_pos hb]
    rw [ht]
    clear ht
    rcases hb with hb | hb
    · go_enter Tryz.func12, Tryz.ntmps12
      go_wp2
      go_ret
      exact ⟨rfl, Below.refl _ _⟩
    · have hb2 : ¬ n < 1 := by omega
      go_enter Tryz.func12, Tryz.ntmps12
      go_wp2
      go_ret
      exact ⟨rfl, Below.refl _ _⟩
  · obtain ⟨m, rfl⟩ := Int.eq_ofNat_of_zero_le (show 0 ≤ n by omega)
    have b1 : ¬ (m : Int) < 1 := by omega
    have b2 : ¬ (99999999 : Int) < (m : Int) := by omega
    have hl := dec_len 7 m (by omega)
    have HI := Lib.hid (Tryz.strconv_Itoa (m : Int) (by omega) (by omega) w HT.out.pow)
    have hi : Lib.itoa (m : Int) = Lib.decDigits m := by unfold Lib.itoa; rw [if_neg (by omega)]; simp
    have hsz : (⟨(Lib.decDigits m).toArray⟩ : ByteArray).size = (Lib.decDigits m).length := by rw [← bl_len]; exact congrArg List.length (bl_mk _)
    have HE := Lib.hid (show titleN (m : Int) = mkB wpre ++ mkB (Lib.repeatL [48] (8 - (Lib.decDigits m).length)) ++ mkB (Lib.decDigits m) from by
      rw [title_in ⟨by omega, by omega⟩, mkB_app, mkB_app]
      unfold wdig
      rw [List.append_assoc])
    rw [hi] at HI
    obtain ⟨k, hk⟩ : ∃ k, k = 8 - (Lib.decDigits m).length := ⟨_, rfl⟩
    have q1 : IntKind.i64.wrap ((8 : Int) - ((Lib.decDigits m).length : Int)) = (k : Int) := by rw [IntWalk.i64_in _ (by omega)]; omega
    rw [← hk] at HE
    have HK := Lib.hid hk
    have hk8 : k ≤ 8 := by omega
    clear hi hk
    generalize Lib.decDigits m = D at *
    have HR := Lib.hid (fun W => Tryz.strings_Repeat ⟨#[48]⟩ k W (by omega) (by show 1 * k ≤ _; omega))
    go_enter Tryz.func12, Tryz.ntmps12
    go_wp2_with fail
    with_reducible refine HI.out.mono ?_
    rintro e w1 ⟨rfl, q, os, rfl⟩
    have HB1 := Lib.hid (below_grow (w := w) (k := q) (os := os))
    generalize Go.Sort.grow (w.drewN q) os = w1 at *
    go_wp2_with fail
    with_reducible refine (HR.out w1).mono ?_
    rintro e w2 ⟨rfl, hb2⟩
    have HB2 := Lib.hid (HB1.out.trans (hb2.mono HB1.out.size))
    clear hb2
    have hrl : (Lib.repeatL [48] k).length = k := by rw [Lib.repeatL_length]; simp
    have n1 : ¬ 9223372036854775807 < 4 + (Lib.repeatL [48] k).length := by omega
    have n2 : ¬ 9223372036854775807 < 4 + (Lib.repeatL [48] k).length + D.length := by omega
    go_wp2
    go_ret
    exact ⟨by rw [HE.out]; rfl, HB2.out⟩
end
end Go.Proofs.YtnmbjhpecblioaaGreatDoor
