/-
  The text that bytes begin with: the plain answers' own took.
-/
import Derived.Test.YtgogpngobdafaaaDoorRuvC
import Derived.Test.YtgogpngobdafaaaDoorLa
import Derived.Test.YtgogpngobdafaaaDoorLg
import Derived.Test.YtgogpngobdafaaaDoorGen
import Derived.BigQuiet
import Derived.IntWalk
namespace Go.Proofs.YtgogpngobdafaaaDoor
set_option linter.unusedVariables false
set_option linter.unusedSimpArgs false
open Go.RowKit
/-- What is handed back: a text, what stands behind it, what was wrong. -/
def TookRes (A0 : Option Addr) (w : World) (xs : Bs) (most : Nat) (e : Ending) (w' : World) : Prop :=
  ((textAt xs most).2.2 = 0 ∧ ∃ A c, e = .returned (.tuple #[.string (textAt xs most).1, .slice A (xs.length - (textAt xs most).2.1) c, .int .i64 0]) ∧ (∀ W, Rd W A0 (xs.map Bv) → Rd W A ((xs.drop (textAt xs most).2.1).map Bv)) ∧ xs.length - (textAt xs most).2.1 ≤ c ∧ c ≤ 9223372036854775807 ∧ ∃ n, w' = w.drewN n) ∨
  ((textAt xs most).2.2 ≠ 0 ∧ e = .returned (.tuple #[.string ⟨#[]⟩, .slice none 0 0, .int .i64 ((textAt xs most).2.2 : Nat)]) ∧ ∃ n, w' = w.drewN n)
section
set_option maxHeartbeats 1600000
set_option maxRecDepth 100000
theorem took_any (A : Option Addr) (c : Nat) (xs : Bs) (most : Nat) (w : World) (hx : Rd w A (xs.map Bv)) (hc : xs.length ≤ c) (hl : xs.length ≤ 1000000) (hcm : c ≤ 9223372036854775807) (hm : most ≤ 1000) :
    Calls Tryd.prog 111 #[.slice A xs.length c, .int .u64 (most : Nat)] w (TookRes A w xs most) := by
  obtain ⟨A0, hA0⟩ : ∃ A0, A0 = A := ⟨_, rfl⟩
  have hu := ruvarint_any A c xs w hx (by omega)
  have hk := uvS_le' xs
  have hn := uvS_lt' xs
  obtain ⟨T, hT⟩ : ∃ T, T = textAt xs most := ⟨_, rfl⟩
  have hpost : TookRes A w xs most = fun e w' => (T.2.2 = 0 ∧ ∃ A c, e = .returned (.tuple #[.string T.1, .slice A (xs.length - T.2.1) c, .int .i64 0]) ∧ (∀ W, Rd W A0 (xs.map Bv) → Rd W A ((xs.drop T.2.1).map Bv)) ∧ xs.length - T.2.1 ≤ c ∧ c ≤ 9223372036854775807 ∧ ∃ n, w' = w.drewN n) ∨
  (T.2.2 ≠ 0 ∧ e = .returned (.tuple #[.string ⟨#[]⟩, .slice none 0 0, .int .i64 (T.2.2 : Nat)]) ∧ ∃ n, w' = w.drewN n) := by rw [hT, hA0]; rfl
  have hpost2 := fun e w' => congrFun (congrFun hpost e) w'
  have HPO := Lib.hid hpost2; clear hpost2 hpost
  have HA0 := Lib.hid hA0; clear hA0
  unfold textAt at hT
  generalize uvS 0 0 xs = U at hu hk hn hT
  obtain ⟨n, k, e⟩ := U
  simp only at hk hn hT
  have hut : uvT (n, k, e) = .tuple #[.int .u64 (n : Int), .int .i64 (k : Int), .int .i64 (e : Int)] := rfl
  rw [hut] at hu
  have HU := Lib.hid hu; clear hu hut
  by_cases he : e = 0
  · subst he
    rw [if_neg (by simp)] at hT
    by_cases h1 : most < n
    · rw [if_pos h1] at hT
      subst hT
      have g1 : (most : Int) < (n : Int) := by omega
      go_enter Tryd.func111, Tryd.ntmps111
      go_wp2_with fail
      refine HU.out.mono ?_
      rintro e w1 ⟨rfl, rfl⟩
      go_wp2
      go_ret3
      rw [HPO.out]; exact Or.inr ⟨by decide, rfl, 0, rfl⟩
    · rw [if_neg h1] at hT
      have g1 : ¬ (most : Int) < (n : Int) := by omega
      have hsub : ((xs.length : Int) - (k : Int)) = ((xs.length - k : Nat) : Int) := by omega
      by_cases h2 : xs.length - k < n
      · rw [if_pos h2] at hT
        subst hT
        have g2 : ((xs.length : Int) - (k : Int)) < (n : Int) := by omega
        go_enter Tryd.func111, Tryd.ntmps111
        go_wp2_with fail
        refine HU.out.mono ?_
        rintro e w1 ⟨rfl, rfl⟩
        go_wp2
        go_ret3
        rw [HPO.out]; exact Or.inr ⟨by decide, rfl, 0, rfl⟩
      · rw [if_neg h2] at hT
        subst hT
        have g2 : ¬ ((xs.length : Int) - (k : Int)) < (n : Int) := by omega
        have hlen : ((xs.drop k).take n).length = n := by rw [List.length_take, List.length_drop]; omega
        generalize hz : (xs.drop k).take n = z at hlen HPO
        obtain ⟨m, hm⟩ : ∃ m, m = k + n := ⟨_, rfl⟩
        have hmi : (k : Int) + (n : Int) = (m : Int) := by omega
        have hmw : IntKind.i64.wrap (m : Int) = (m : Int) := IntWalk.i64_in _ (by omega)
        have hnw : IntKind.i64.wrap (n : Int) = (n : Int) := IntWalk.i64_in _ (by omega)
        have hml : m ≤ xs.length := by omega
        obtain ⟨A1, hs1, hv1⟩ := run_slice_all (P := Tryd.prog) 30 5 A xs.length c k m (some (.int .i64 (k : Nat))) (some (.int .i64 (m : Nat))) Tryd.underlying30 (by kernel_rfl) (.inl rfl) (.inl rfl) (by omega) (by omega)
        obtain ⟨A2, hs2, hv2⟩ := run_slice_all (P := Tryd.prog) 30 5 A xs.length c m xs.length (some (.int .i64 (m : Nat))) none Tryd.underlying30 (by kernel_rfl) (.inl rfl) (.inr ⟨rfl, rfl⟩) (by omega) (by omega)
        have hd : ∀ W : World, Rd W A (xs.map Bv) → Rd W A1 (z.map Bv) := fun W h => by
          have h2 := (hv1 W _ (by rw [List.length_map]; exact hc) h).take n
          rwa [← List.map_drop, ← List.map_take, hz] at h2
        have hs3 : ∀ q, (convert 30 9 (.slice A1 (m - k) (c - k))).run Tryd.prog (w.drewN q) = .ok (.string (mkB z)) (w.drewN q) := fun q => by
          have := run_str (w.drewN q) A1 (c - k) z (hd _ (hx.drewN q))
          rwa [hlen, show n = m - k by omega] at this
        have hfin : ∀ W, Rd W A0 (xs.map Bv) → Rd W A2 ((xs.drop (k + n)).map Bv) := fun W hW => by
          have h2 := hv2 W (xs.map Bv) (by rw [List.length_map]; exact hc) (by rw [← HA0.out]; exact hW)
          rwa [← List.map_drop, hm] at h2
        have hlm : xs.length - m = xs.length - (k + n) := by omega
        have HFI := Lib.hid hfin; have HLM := Lib.hid hlm; clear hfin hv1 hv2 hd hz hm hlm hlen
        go_enter Tryd.func111, Tryd.ntmps111
        go_wp2_with fail
        refine HU.out.mono ?_
        rintro e w1 ⟨rfl, rfl⟩
        go_wp2_with fail
        go_quiet (fail)
        go_wp2
        go_ret3
        rw [HPO.out]
        exact Or.inl ⟨by first | rfl | trivial, A2, c - m, by rw [← HLM.out]; rfl, HFI.out, by omega, by omega, _, rfl⟩
  · rw [if_pos he] at hT
    subst hT
    have g0 : ((e : Int) != 0) = true := by rw [bne_iff_ne]; omega
    go_enter Tryd.func111, Tryd.ntmps111
    go_wp2_with fail
    refine HU.out.mono ?_
    rintro e w1 ⟨rfl, rfl⟩
    go_wp2
    go_ret3
    rw [HPO.out]; exact Or.inr ⟨he, rfl, 0, rfl⟩
theorem took_ok (A : Option Addr) (c len : Nat) (xs : Bs) (most : Nat) (w : World) (s : ByteArray) (q : Nat) (ht : textAt xs most = (s, q, 0)) (hle : xs.length = len) (hx : Rd w A (xs.map Bv)) (hc : len ≤ c) (hl : len ≤ 1000000) (hcm : c ≤ 9223372036854775807) (hm : most ≤ 1000) :
    Calls Tryd.prog 111 #[.slice A len c, .int .u64 (most : Nat)] w fun e w' => ∃ A1 c1, e = .returned (.tuple #[.string s, .slice A1 (len - q) c1, .int .i64 0]) ∧ (∀ W, Rd W A (xs.map Bv) → Rd W A1 ((xs.drop q).map Bv)) ∧ len - q ≤ c1 ∧ c1 ≤ 9223372036854775807 ∧ ∃ n, w' = w.drewN n := by
  subst hle
  refine (took_any A c xs most w hx hc hl hcm hm).mono ?_
  rintro e w' (⟨h0, A1, c1, h1, h2, h3, h4, h5⟩ | ⟨h0, -⟩)
  · rw [ht] at h1 h2 h3
    exact ⟨A1, c1, h1, h2, h3, h4, h5⟩
  · rw [ht] at h0; exact absurd rfl h0
theorem took_bad (A : Option Addr) (c len : Nat) (xs : Bs) (most : Nat) (w : World) (er : Nat) (h0 : er ≠ 0) (ht : (textAt xs most).2.2 = er) (hle : xs.length = len) (hx : Rd w A (xs.map Bv)) (hc : len ≤ c) (hl : len ≤ 1000000) (hcm : c ≤ 9223372036854775807) (hm : most ≤ 1000) :
    Calls Tryd.prog 111 #[.slice A len c, .int .u64 (most : Nat)] w fun e w' => e = .returned (.tuple #[.string ⟨#[]⟩, .slice none 0 0, .int .i64 (er : Nat)]) ∧ ∃ n, w' = w.drewN n := by
  subst hle
  refine (took_any A c xs most w hx hc hl hcm hm).mono ?_
  rintro e w' (⟨h1, -⟩ | ⟨h1, h2, h3⟩)
  · rw [ht] at h1; exact absurd h1 h0
  · rw [ht] at h2; exact ⟨h2, h3⟩
end
end Go.Proofs.YtgogpngobdafaaaDoor
