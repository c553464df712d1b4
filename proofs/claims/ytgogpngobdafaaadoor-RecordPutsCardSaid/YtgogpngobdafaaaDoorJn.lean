/-
  The plain answers' Join: all parts, one behind the other, in memory of its own.
  The plain answers' Join of parts that have just been listed; a text as a row of bytes of its own.
-/
import Derived.Lib.ConvBytes
import Derived.Test.YtgogpngobdafaaaDoorGen
namespace Go.Proofs.YtgogpngobdafaaaDoor
set_option linter.unusedVariables false
set_option linter.unusedSimpArgs false
section
set_option linter.unusedVariables false
set_option linter.unusedSimpArgs false
open Go.RowKit

/-- A part: where it lies, its capacity, its bytes. -/
def partV (p : Option Addr × Nat × List UInt8) : Value := .slice p.1 p.2.2.length p.2.1
def joined (P : List (Option Addr × Nat × List UInt8)) : List UInt8 := P.flatMap (·.2.2)

section
set_option maxHeartbeats 1600000
set_option maxRecDepth 100000
theorem join_any (w : World) (S : Option Addr) (cS : Nat) (P : List (Option Addr × Nat × List UInt8)) (hS : Rd w S (P.map partV)) (hP : ∀ p ∈ P, Rd w p.1 (p.2.2.map Bv))
    (hl : (joined P).length ≤ 140737488351232) (hn : P.length ≤ 9223372036854775807) :
    Calls Tryd.prog 25 #[.slice S P.length cS] w fun e w' => ∃ v, e = .returned v ∧ w'.ownsRow w.heap.size 5 1 v (joined P).length ((joined P).map Bv) ∧ Below w.heap.size w w' := by
  obtain ⟨i0, hi, hz0, hz1, hz2⟩ := info_parts infoU8
  go_enter Tryd.func25, Tryd.ntmps25
  go_wp2
  go_loopw [3, 9] (fun v i wr => ∃ k : Nat, k ≤ P.length ∧ i = .int .i64 k ∧ wr.ownsRow w.heap.size 5 1 v (joined (P.take k)).length ((joined (P.take k)).map Bv) ∧ Below w.heap.size w wr) (fun _ i _ => P.length - (intOf i).toNat)
  case atStart => exact ⟨0, by omega, rfl, World.ownsRow_made w #[] 0 (Nat.le_refl _) (by decide) rfl, (Below.refl _ _).alloc (Nat.le_refl _) _⟩
  case round =>
    obtain ⟨k, hk, rfl, hown, hb⟩ := hrel
    have HS := Lib.hid hb.size
    have hlo := fun (k : Nat) h => (hown.lt k h).1
    by_cases hlt : k < P.length
    · obtain ⟨g, off, hSe, hc⟩ := (hS.below hb) k (partV P[k]) (by simp [hlt])
      subst hSe
      have hrd := (hP P[k] (List.getElem_mem hlt)).below hb
      have hjt : joined (P.take (k + 1)) = joined (P.take k) ++ P[k].2.2 := by
        unfold joined; rw [List.take_succ_eq_append_getElem hlt, List.flatMap_append, List.flatMap_singleton]
      have hjl : (joined (P.take (k + 1))).length ≤ (joined P).length := by
        have : joined P = joined (P.take (k + 1)) ++ joined (P.drop (k + 1)) := by
          simp only [joined, ← List.flatMap_append, List.take_append_drop]
        rw [this, List.length_append]; omega
      have hjs : (joined (P.take (k + 1))).length = (joined (P.take k)).length + P[k].2.2.length := by rw [hjt, List.length_append]
      have HJ := Lib.hid hjt; clear hjt
      have HJS := Lib.hid hjs; clear hjs
      generalize hp : P[k] = pk at *
      obtain ⟨A, c, ys⟩ := pk
      simp only [partV] at hc hrd HJ HJS
      have HP := Lib.hid hp; clear hp
      have h1 : ∀ u ∈ ys.map Bv, u.oneCell' = true := by intro u hu; obtain ⟨x, _, rfl⟩ := List.mem_map.1 hu; rfl
      have H1 := Lib.hid h1; clear h1
      go_wp2_with (first | (at_builtin; go_must (refine wpList_append_rd rfl _ _ 30 rfl w.heap.size 5 i0 (.int .u8 0) 1 Tryd.underlying30 hi hz0 hz1 hz2 rfl _ _ _ rfl hown A c (ys.map Bv) (by simp; rfl) hrd H1.out (by have := HJS.out; rw [List.length_map]; unfold maxLen; omega) (by have := HJS.out; rw [List.length_map]; omega) HS.out ?_; intro v' w1 hown' hgrow)) | fail)
      go_wp2
      go_roundw
      case rel => exact ⟨k + 1, by omega, by go_num, by rw [HJS.out, HJ.out, List.map_append]; simpa using hown', hb.grown hgrow HS.out hlo⟩
      case measure => simp [intOf]; omega
    · have hkl : k = P.length := by omega
      have e : joined (P.take k) = joined P := by rw [hkl, List.take_length]
      rw [e] at hown
      have HK := Lib.hid hkl; clear hkl
      have HE := Lib.hid e; clear e
      go_wp2
      go_ret
      exact ⟨_, rfl, hown, hb⟩

theorem join_two (w : World) (A B : Option Addr) (ca cb : Nat) (xs ys : List UInt8) (hx : Rd w A (xs.map Bv)) (hy : Rd w B (ys.map Bv)) (hl : xs.length + ys.length ≤ 140737488351232) :
    Calls Tryd.prog 25 #[.slice (some ⟨w.heap.size, 0, none⟩) 2 2] (w.alloc (.cells #[.slice A xs.length ca, .slice B ys.length cb] 30)) fun e w' =>
      ∃ C c, e = .returned (.slice C (xs ++ ys).length c) ∧ Rd w' C ((xs ++ ys).map Bv) ∧ Below w.heap.size w w' := by
  have hP : ∀ p ∈ [(A, ca, xs), (B, cb, ys)], Rd (w.alloc (.cells [partV (A, ca, xs), partV (B, cb, ys)].toArray 30)) p.1 (p.2.2.map Bv) := by
    intro p hp
    simp at hp
    rcases hp with rfl | rfl
    · exact hx.alloc _
    · exact hy.alloc _
  have hj : joined [(A, ca, xs), (B, cb, ys)] = xs ++ ys := by simp [joined]
  refine (join_any _ (some ⟨w.heap.size, 0, none⟩) 2 [(A, ca, xs), (B, cb, ys)] (rd_row' w [partV (A, ca, xs), partV (B, cb, ys)] _) hP (by rw [hj, List.length_append]; exact hl) (by simp)).mono ?_
  rintro e w4 ⟨v4, rfl, own4, hb4⟩
  rw [hj] at own4
  obtain ⟨A4, c4, rfl, rd4, _⟩ := own_rd own4
  exact ⟨A4, c4, rfl, rd4, ((Below.refl _ w).alloc (Nat.le_refl _) _).trans (hb4.mono (by simp))⟩
theorem join_two_own (w : World) (A B : Option Addr) (ca cb : Nat) (xs ys : List UInt8) (hx : Rd w A (xs.map Bv)) (hy : Rd w B (ys.map Bv)) (hl : xs.length + ys.length ≤ 140737488351232) :
    Calls Tryd.prog 25 #[.slice (some ⟨w.heap.size, 0, none⟩) 2 2] (w.alloc (.cells #[.slice A xs.length ca, .slice B ys.length cb] 30)) fun e w' =>
      ∃ v, e = .returned v ∧ w'.ownsRow (w.heap.size + 1) 5 1 v (xs ++ ys).length ((xs ++ ys).map Bv) ∧ Below w.heap.size w w' := by
  have hP : ∀ p ∈ [(A, ca, xs), (B, cb, ys)], Rd (w.alloc (.cells [partV (A, ca, xs), partV (B, cb, ys)].toArray 30)) p.1 (p.2.2.map Bv) := by
    intro p hp
    simp at hp
    rcases hp with rfl | rfl
    · exact hx.alloc _
    · exact hy.alloc _
  have hj : joined [(A, ca, xs), (B, cb, ys)] = xs ++ ys := by simp [joined]
  refine (join_any _ (some ⟨w.heap.size, 0, none⟩) 2 [(A, ca, xs), (B, cb, ys)] (rd_row' w [partV (A, ca, xs), partV (B, cb, ys)] _) hP (by rw [hj, List.length_append]; exact hl) (by simp)).mono ?_
  rintro e w4 ⟨v4, rfl, own4, hb4⟩
  rw [hj, World.size_alloc] at own4
  exact ⟨v4, rfl, own4, ((Below.refl _ w).alloc (Nat.le_refl _) _).trans (hb4.mono (by simp))⟩
theorem join_one (w : World) (A : Option Addr) (ca : Nat) (xs : List UInt8) (hx : Rd w A (xs.map Bv)) (hl : xs.length ≤ 140737488351232) :
    Calls Tryd.prog 25 #[.slice (some ⟨w.heap.size, 0, none⟩) 1 1] (w.alloc (.cells #[.slice A xs.length ca] 30)) fun e w' =>
      ∃ v, e = .returned v ∧ w'.ownsRow (w.heap.size + 1) 5 1 v xs.length (xs.map Bv) ∧ Below w.heap.size w w' := by
  have hP : ∀ p ∈ [(A, ca, xs)], Rd (w.alloc (.cells [partV (A, ca, xs)].toArray 30)) p.1 (p.2.2.map Bv) := by
    intro p hp
    simp at hp
    subst hp
    exact hx.alloc _
  have hj : joined [(A, ca, xs)] = xs := by simp [joined]
  refine (join_any _ (some ⟨w.heap.size, 0, none⟩) 1 [(A, ca, xs)] (rd_row' w [partV (A, ca, xs)] _) hP (by rw [hj]; exact hl) (by simp)).mono ?_
  rintro e w4 ⟨v4, rfl, own4, hb4⟩
  rw [hj, World.size_alloc] at own4
  exact ⟨v4, rfl, own4, ((Below.refl _ w).alloc (Nat.le_refl _) _).trans (hb4.mono (by simp))⟩
end
end
section
set_option linter.unusedVariables false
set_option linter.unusedSimpArgs false
open Go.RowKit
theorem join_here (w : World) (P : List (Option Addr × Nat × List UInt8)) (n : Nat) (hn : P.length = n) (hP : ∀ p ∈ P, Rd w p.1 (p.2.2.map Bv)) (ys : List UInt8) (hj : joined P = ys) (hl : ys.length ≤ 140737488351232) (hm : n ≤ 1000) :
    Calls Tryd.prog 25 #[.slice (some ⟨w.heap.size, 0, none⟩) n n] (w.alloc (.cells (P.map partV).toArray 30)) fun e w' =>
      ∃ A c, e = .returned (.slice A ys.length c) ∧ w'.ownsRow (w.heap.size + 1) 5 1 (.slice A ys.length c) ys.length (ys.map Bv) ∧ Below w.heap.size w w' := by
  subst hn hj
  refine (join_any _ (some ⟨w.heap.size, 0, none⟩) P.length P (rd_row' w (P.map partV) _) (fun p hp => (hP p hp).alloc _) hl (by omega)).mono ?_
  rintro e w4 ⟨v4, rfl, own4, hb4⟩
  obtain ⟨A, c, hv, -⟩ := own_rd own4
  subst hv
  rw [World.size_alloc] at own4
  exact ⟨A, c, rfl, own4, ((Below.refl _ w).alloc (Nat.le_refl _) _).trans (hb4.mono (by simp))⟩
theorem join_three (w : World) (A B C : Option Addr) (ca cb cc : Nat) (xs ys zs Y : List UInt8) (hx : Rd w A (xs.map Bv)) (hy : Rd w B (ys.map Bv)) (hz : Rd w C (zs.map Bv)) (hY : Y = xs ++ ys ++ zs) (hl : Y.length ≤ 140737488351232) :
    Calls Tryd.prog 25 #[.slice (some ⟨w.heap.size, 0, none⟩) 3 3] (w.alloc (.cells #[.slice A xs.length ca, .slice B ys.length cb, .slice C zs.length cc] 30)) fun e w' =>
      ∃ A c, e = .returned (.slice A Y.length c) ∧ w'.ownsRow (w.heap.size + 1) 5 1 (.slice A Y.length c) Y.length (Y.map Bv) ∧ Below w.heap.size w w' :=
  join_here w [(A, ca, xs), (B, cb, ys), (C, cc, zs)] 3 rfl (by
    intro q hq
    simp only [List.mem_cons, List.not_mem_nil, or_false] at hq
    rcases hq with rfl | rfl | rfl
    · exact hx
    · exact hy
    · exact hz) Y (by rw [hY]; simp [joined]) hl (by decide)
/-- A text as a row of bytes of its own. -/
theorem run_bytes (w : World) (s : ByteArray) (bytes string u8 : TypeId) (hs : Tryd.prog.underlying string = some .string) (hd : Tryd.prog.underlying bytes = some (.slice u8)) (he : Tryd.prog.underlying u8 = some (.int .u8)) :
    ∃ c W, (convert string bytes (.string s)).run Tryd.prog w = .ok (.slice (some ⟨w.heap.size, 0, none⟩) s.size c) W ∧ Rd W (some ⟨w.heap.size, 0, none⟩) (s.data.toList.map Bv) ∧ W.heap.size = w.heap.size + 1 ∧ Below w.heap.size w W := by
  refine ⟨_, _, Go.Lib.run_convert_string_bytes w string bytes u8 s hs hd he, ?_, Go.Lib.bytesWorld_size w u8 s, ⟨rfl, rfl, rfl, by rw [Go.Lib.bytesWorld_size]; omega, fun k hk => Go.Lib.bytesWorld_at_old w u8 s k hk⟩⟩
  intro k v hv
  refine ⟨_, 0, rfl, ?_⟩
  have hk : k < s.data.toList.length := by
    have := (List.getElem?_eq_some_iff.1 hv).1
    simpa using this
  rw [Nat.zero_add, Go.Lib.bytesWorld_cell w u8 s k (by simpa using hk)]
  rw [List.getElem?_map, List.getElem?_eq_getElem hk] at hv
  simp only [Option.map_some, Option.some.injEq] at hv
  rw [← hv, List.getD, List.getElem?_eq_getElem hk]
  rfl
end
end Go.Proofs.YtgogpngobdafaaaDoor
