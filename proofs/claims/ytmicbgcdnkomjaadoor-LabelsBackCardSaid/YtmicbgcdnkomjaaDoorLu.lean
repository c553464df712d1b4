/-
  Texts and labels there and back in bytes, plainly.
-/
import Derived.Test.YtmicbgcdnkomjaaDoorLa
import Derived.Test.YtmicbgcdnkomjaaDoorLp
namespace Go.Proofs.YtmicbgcdnkomjaaDoor
set_option linter.unusedVariables false
set_option linter.unusedSimpArgs false
open Go.RowKit
theorem sizedP_len (s : ByteArray) : (sizedP s).length = (pu s.size).length + s.size := by unfold sizedP; rw [List.length_append, bl_len]
theorem uv_of_pu {n : Nat} (h : n ≤ 1000) (r : Bs) : uvS 0 0 (pu n ++ r) = (n, (pu n).length, 0) := by
  have h10 := pu_len 10 n (by omega)
  have := uvS_pu n 0 0 r (.inl rfl) (by omega) (by simp; omega)
  simpa using this
theorem textAt_put {s : ByteArray} {most : Nat} (hs : s.size ≤ most) (hm : most ≤ 1000) (r : Bs) : textAt (sizedP s ++ r) most = (s, (sizedP s).length, 0) := by
  have hu : uvS 0 0 (sizedP s ++ r) = (s.size, (pu s.size).length, 0) := by unfold sizedP; rw [List.append_assoc]; exact uv_of_pu (by omega) _
  have hl := sizedP_len s
  unfold textAt
  rw [hu]
  simp only
  rw [if_neg (by simp), if_neg (by omega), if_neg (by rw [List.length_append, hl]; omega)]
  have e : ((sizedP s ++ r).drop (pu s.size).length).take s.size = bl s := by
    unfold sizedP
    rw [List.append_assoc, List.drop_left, ← bl_len s, List.take_left]
  rw [e, mk_bl, hl]
theorem textAt_cut {s : ByteArray} {most i : Nat} (hs : s.size ≤ most) (hm : most ≤ 1000) (hi : i < (sizedP s).length) : textAt ((sizedP s).take i) most = (⟨#[]⟩, 0, 6) := by
  have h10 := pu_len 10 s.size (by omega)
  rw [sizedP_len] at hi
  by_cases h : i < (pu s.size).length
  · have e : (sizedP s).take i = (pu s.size).take i := by unfold sizedP; exact List.take_append_of_le_length (by omega)
    have hu := uvS_cut s.size 0 0 i h (by omega)
    unfold textAt
    rw [e, hu]
    simp
  · have e : (sizedP s).take i = pu s.size ++ (bl s).take (i - (pu s.size).length) := by
      unfold sizedP; rw [List.take_append, List.take_of_length_le (by omega)]
    have hu := uv_of_pu (n := s.size) (by omega) ((bl s).take (i - (pu s.size).length))
    unfold textAt
    rw [e, hu]
    simp only
    rw [if_neg (by simp), if_neg (by omega), if_pos]
    rw [List.length_append, List.length_take, bl_len]
    omega
theorem labelAt_put {x : Lb} (h1 : x.1.size ≤ 64) (h2 : x.2.size ≤ 128) (r : Bs) : labelAt (sizedP x.1 ++ sizedP x.2 ++ r) = (x, (sizedP x.1).length + (sizedP x.2).length, 0) := by
  have e1 : textAt (sizedP x.1 ++ sizedP x.2 ++ r) 64 = (x.1, (sizedP x.1).length, 0) := by rw [List.append_assoc]; exact textAt_put h1 (by decide) _
  have e2 : (sizedP x.1 ++ sizedP x.2 ++ r).drop (sizedP x.1).length = sizedP x.2 ++ r := by rw [List.append_assoc, List.drop_left]
  unfold labelAt
  rw [e1]
  simp only
  rw [e2, textAt_put h2 (by decide) r]
  simp
theorem labelAt_cut {x : Lb} {i : Nat} (h1 : x.1.size ≤ 64) (h2 : x.2.size ≤ 128) (hi : i < (sizedP x.1).length + (sizedP x.2).length) : labelAt ((sizedP x.1 ++ sizedP x.2).take i) = ((⟨#[]⟩, ⟨#[]⟩), 0, 6) := by
  by_cases h : i < (sizedP x.1).length
  · have e : (sizedP x.1 ++ sizedP x.2).take i = (sizedP x.1).take i := List.take_append_of_le_length (by omega)
    unfold labelAt
    rw [e, textAt_cut h1 (by decide) h]
    simp
  · have e : (sizedP x.1 ++ sizedP x.2).take i = sizedP x.1 ++ (sizedP x.2).take (i - (sizedP x.1).length) := by
      rw [List.take_append, List.take_of_length_le (by omega)]
    have e1 := textAt_put h1 (show 64 ≤ 1000 by decide) ((sizedP x.2).take (i - (sizedP x.1).length))
    unfold labelAt
    rw [e, e1]
    simp only
    rw [List.drop_left, textAt_cut h2 (by decide) (by omega)]
    simp
end Go.Proofs.YtmicbgcdnkomjaaDoor
