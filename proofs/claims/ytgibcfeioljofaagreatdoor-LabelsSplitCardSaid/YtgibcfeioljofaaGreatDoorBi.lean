/-
  slices.BinarySearch over texts in order.
-/
import Derived.Test.YtgibcfeioljofaaGreatDoorTx
import Derived.Test.YtgibcfeioljofaaGreatDoorRg
namespace Go.Proofs.YtgibcfeioljofaaGreatDoor
set_option linter.unusedVariables false
set_option linter.unusedSimpArgs false
open Go.RowKit
/-- Texts in order. -/
def SortT (ns : List ByteArray) : Prop := ∀ i j, (hi : i < ns.length) → (hj : j < ns.length) → i ≤ j → ¬ bl ns[j] < bl ns[i]
theorem found_of {ns : List ByteArray} {t : ByteArray} {i : Nat} (hs : SortT ns) (lo : ∀ m, (h : m < ns.length) → m < i → bl ns[m] < bl t) (hi : ∀ m, (h : m < ns.length) → i ≤ m → ¬ bl ns[m] < bl t) :
    inP ns t = if h : i < ns.length then (if ns[i] = t then true else false) else false := by
  rw [Bool.eq_iff_iff, inP_iff]
  constructor
  · intro hm
    obtain ⟨m, hml, rfl⟩ := List.getElem_of_mem hm
    by_cases hmi : m < i
    · exact absurd (lo m hml hmi) (ltB_irrefl _)
    · have hil : i < ns.length := by omega
      rw [dif_pos hil]
      have h1 := hi i hil (Nat.le_refl _)
      have h2 := hs i m hil hml (by omega)
      rcases ltB_total (bl ns[i]) (bl ns[m]) with h | h | h
      · exact absurd h h1
      · rw [if_pos (bl_inj h)]
      · exact absurd h h2
  · intro h
    by_cases hil : i < ns.length
    · rw [dif_pos hil] at h
      by_cases he : ns[i] = t
      · rw [← he]; exact List.getElem_mem hil
      · rw [if_neg he] at h; cases h
    · rw [dif_neg hil] at h; cases h
section
set_option maxHeartbeats 1600000
set_option maxRecDepth 100000
theorem nan_any (a : ByteArray) (w : World) : Calls Tryz.prog 97 #[.string a] w fun e w' => e = .returned (.bool false) ∧ w' = w := by
  have hq : (a.toList == a.toList) = true := by simp
  go_enter Tryz.func97, Tryz.ntmps97
  go_wp2
  go_ret
  exact ⟨rfl, rfl⟩
theorem cnan_any (a : ByteArray) (w : World) : Calls Tryz.prog 133 #[.string a] w fun e w' => e = .returned (.bool false) ∧ w' = w := by
  have hq : (a.toList == a.toList) = true := by simp
  go_enter Tryz.func133, Tryz.ntmps133
  go_wp2
  go_ret
  exact ⟨rfl, rfl⟩
theorem cless_any (a b : ByteArray) (w : World) : Calls Tryz.prog 96 #[.string a, .string b] w fun e w' => e = .returned (.bool (decide (bl a < bl b))) ∧ w' = w := by
  have hn := cnan_any a w
  have HN := Lib.hid hn; clear hn
  have q1 : Op.bytesLess a.toList b.toList = decide (bl a < bl b) := by rw [less_bytes, toList_bl, toList_bl]
  generalize decide (bl a < bl b) = q at q1
  cases q
  all_goals
    go_enter Tryz.func96, Tryz.ntmps96
    go_wp2_with fail
    refine HN.out.mono ?_
    rintro e w1 ⟨rfl, rfl⟩
    go_wp2
    go_ret
    exact ⟨rfl, rfl⟩
theorem bs_any (A : Option Addr) (c : Nat) (ns : List ByteArray) (t : ByteArray) (w : World) (hx : Rd w A (tcells ns)) (hs : SortT ns) (hl : ns.length ≤ 1000000) :
    Calls Tryz.prog 71 #[.slice A ns.length c, .string t] w fun e w' => ∃ i : Int, e = .returned (.tuple #[.int .i64 i, .bool (inP ns t)]) ∧ w' = w := by
  obtain ⟨R, hR⟩ : ∃ R, R = inP ns t := ⟨_, rfl⟩
  rw [← hR]
  have HR := Lib.hid hR; clear hR
  have HS := Lib.hid hs; clear hs
  have HX := Lib.hid hx; clear hx
  have HL := Lib.hid (fun x => cless_any x t w)
  go_enter Tryz.func71, Tryz.ntmps71
  go_wp2
  go_loopw [7, 8] (fun s7 s8 wr => ∃ i j : Nat, s7 = .int .i64 i ∧ s8 = .int .i64 j ∧ i ≤ j ∧ j ≤ ns.length ∧ wr = w ∧ Aside (∀ m, (h : m < ns.length) → m < i → bl ns[m] < bl t) ∧ Aside (∀ m, (h : m < ns.length) → j ≤ m → ¬ bl ns[m] < bl t)) (fun s7 s8 _ => (intOf s8).toNat - (intOf s7).toNat)
  case atStart => exact ⟨0, ns.length, rfl, rfl, by omega, by omega, rfl, fun m h h' => absurd h' (by omega), fun m h h' => absurd h' (by omega)⟩
  case round =>
    obtain ⟨i, j, rfl, rfl, hij, hj, rfl, LO, HI⟩ := hrel
    have i0 : (0 : Int) ≤ (i : Int) := by omega
    by_cases hlt : i < j
    · have k1 : (i : Int) < (j : Int) := by omega
      obtain ⟨h, hh⟩ : ∃ h, h = (i + j) / 2 := ⟨_, rfl⟩
      have hih : i ≤ h := by omega
      have hhj : h < j := by omega
      have hhn : h < ns.length := by omega
      have h0 : (0 : Int) ≤ (h : Int) := by omega
      have h1 : (h : Int) < (ns.length : Int) := by omega
      obtain ⟨b, off, rfl, c0⟩ := tx_at HX.out hhn
      have hless := HL.out ns[h]
      have hlo : bl ns[h] < bl t → ∀ m, (hm : m < ns.length) → m < h + 1 → bl ns[m] < bl t := fun hb m hm hm' => by
        by_cases e : bl ns[m] < bl t
        · exact e
        · exact absurd (List.lt_of_le_of_lt (List.not_lt.1 (HS.out m h hm hhn (by omega))) hb) e
      have hhi : ¬ bl ns[h] < bl t → ∀ m, (hm : m < ns.length) → h ≤ m → ¬ bl ns[m] < bl t := fun hb m hm hm' e => hb (List.lt_of_le_of_lt (List.not_lt.1 (HS.out h m hhn hm hm')) e)
      have HLO := Lib.hid hlo; have HHI := Lib.hid hhi; clear hlo hhi
      generalize ns[h] = x at c0 hless HLO HHI
      rw [hh] at c0
      have HHH := Lib.hid hh
      by_cases hb : bl x < bl t
      · rw [decide_eq_true hb] at hless
        have HLE := Lib.hid hless; have HB := Lib.hid hb; clear hless hb
        clear hh
        go_wp2_with fail
        refine HLE.out.mono ?_
        rintro e w1 ⟨rfl, rfl⟩
        go_wp2
        go_roundw
        case rel => exact ⟨h + 1, j, by rw [HHH.out]; go_num, rfl, by omega, by omega, trivial, (show Aside _ from HLO.out HB.out), (show Aside _ from HI.out)⟩
        case measure => simp [intOf]; have := HHH.out; omega
      · rw [decide_eq_false hb] at hless
        have HLE := Lib.hid hless; have HB := Lib.hid hb; clear hless hb
        clear hh
        go_wp2_with fail
        refine HLE.out.mono ?_
        rintro e w1 ⟨rfl, rfl⟩
        go_wp2
        go_roundw
        case rel => exact ⟨i, h, rfl, by rw [HHH.out]; go_num, by omega, by omega, trivial, (show Aside _ from LO.out), (show Aside _ from HHI.out HB.out)⟩
        case measure => simp [intOf]; have := HHH.out; omega
    · obtain rfl : i = j := by omega
      have hfd := found_of HS.out LO.out HI.out
      rw [← HR.out] at hfd
      by_cases hn : i < ns.length
      · have k1 : (i : Int) < (ns.length : Int) := by omega
        obtain ⟨b, off, rfl, c0⟩ := tx_at HX.out hn
        rw [dif_pos hn] at hfd
        clear HX LO HI
        generalize ns[i] = x at c0 hfd
        by_cases he : x = t
        · rw [if_pos he] at hfd
          subst hfd
          have hq : (x.toList == t.toList) = true := by rw [he]; simp
          clear he
          go_wp2
          go_ret2
          first | exact ⟨_, rfl⟩ | exact ⟨_, rfl, rfl⟩
        · rw [if_neg he] at hfd
          subst hfd
          have hq := text_ne he
          have HN := Lib.hid (nan_any x wr)
          clear he
          go_wp2_with fail
          refine HN.out.mono ?_
          rintro e w1 ⟨rfl, rfl⟩
          go_wp2
          go_ret2
          first | exact ⟨_, rfl⟩ | exact ⟨_, rfl, rfl⟩
      · rw [dif_neg hn] at hfd
        subst hfd
        have k1 : ¬ (i : Int) < (ns.length : Int) := by omega
        clear LO HI
        go_wp2
        go_ret2
        exact ⟨⟨_, rfl⟩, rfl⟩
end
end Go.Proofs.YtgibcfeioljofaaGreatDoor
