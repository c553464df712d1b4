/-
  Lists of texts: whether a text is one of them (the plain answers' In), and whether they are few and short (the law's own).
-/
import Derived.Test.YtgibcfeioljofaaGreatDoorGt
namespace Go.Proofs.YtgibcfeioljofaaGreatDoor
set_option linter.unusedVariables false
set_option linter.unusedSimpArgs false
open Go.RowKit
/-- The cells of a list of texts. -/
def tcells (ns : List ByteArray) : List Value := ns.map Value.string
theorem tcells_len (ns : List ByteArray) : (tcells ns).length = ns.length := by unfold tcells; rw [List.length_map]
theorem tx_at {w : World} {A : Option Addr} {ns : List ByteArray} (h : Rd w A (tcells ns)) {k : Nat} (hk : k < ns.length) :
    ∃ b off, A = some ⟨b, off, none⟩ ∧ w.cell? ⟨b, off + k, none⟩ = some (.string ns[k]) := by
  exact h k _ (by unfold tcells; simp [hk])
theorem tx_nil {w : World} {ns : List ByteArray} (h : Rd w none (tcells ns)) : ns = [] := by
  cases ns with
  | nil => rfl
  | cons x r => obtain ⟨b, off, e, _⟩ := tx_at h (k := 0) (by simp); cases e
/-- Whether a text is one of these. -/
def inP (ns : List ByteArray) (n : ByteArray) : Bool := decide (bl n ∈ ns.map bl)
theorem inP_iff {ns : List ByteArray} {n : ByteArray} : inP ns n = true ↔ n ∈ ns := by
  unfold inP
  rw [decide_eq_true_iff, List.mem_map]
  constructor
  · rintro ⟨a, ha, e⟩; rw [bl_inj_iff] at e; rwa [← e]
  · intro h; exact ⟨n, h, rfl⟩
theorem in_at {ns : List ByteArray} {k : Nat} (n : ByteArray) (h : k < ns.length) : inP (ns.drop k) n = if ns[k] = n then true else inP (ns.drop (k + 1)) n := by
  rw [List.drop_eq_getElem_cons h]
  by_cases e : ns[k] = n
  · rw [if_pos e, inP_iff, List.mem_cons]; exact Or.inl e.symm
  · rw [if_neg e, Bool.eq_iff_iff, inP_iff, inP_iff, List.mem_cons]
    exact ⟨fun h => h.resolve_left (fun h => e h.symm), Or.inr⟩
def namesB (ns : List ByteArray) : Bool := decide (ns.length ≤ 60) && ns.all fun x => decide (x.size ≤ 400)
theorem names_of {ns : List ByteArray} (h : namesB ns = true) : ns.length ≤ 60 ∧ ∀ x ∈ ns, x.size ≤ 400 := by
  unfold namesB at h
  rw [Bool.and_eq_true, List.all_eq_true] at h
  exact ⟨of_decide_eq_true h.1, fun x hx => of_decide_eq_true (h.2 x hx)⟩
section
set_option maxHeartbeats 1600000
set_option maxRecDepth 100000
theorem rin_any (A : Option Addr) (c : Nat) (ns : List ByteArray) (n : ByteArray) (w : World) (hx : Rd w A (tcells ns)) (hl : ns.length ≤ 1000000) :
    Calls Tryz.prog 36 #[.slice A ns.length c, .string n] w fun e w' => e = .returned (.bool (inP ns n)) ∧ w' = w := by
  obtain ⟨R, hR⟩ : ∃ R, R = inP ns n := ⟨_, rfl⟩
  rw [← hR]
  have hst : R = inP (ns.drop 0) n := hR
  have HST := Lib.hid hst; clear hst hR
  go_enter Tryz.func36, Tryz.ntmps36
  go_wp2
  go_loopw [9] (fun s9 wr => ∃ k : Nat, s9 = .int .i64 k ∧ k ≤ ns.length ∧ wr = w ∧ Aside (R = inP (ns.drop k) n)) (fun s9 _ => ns.length - (intOf s9).toNat)
  case atStart => exact ⟨0, rfl, by omega, rfl, HST.out⟩
  case round =>
    obtain ⟨k, rfl, hk, rfl, E⟩ := hrel
    have k0 : (0 : Int) ≤ (k : Int) := by omega
    by_cases hlt : k < ns.length
    · have k1 : (k : Int) < (ns.length : Int) := by omega
      obtain ⟨b, off, rfl, c0⟩ := tx_at hx hlt
      have hE := E.out.trans (in_at n hlt)
      clear E hx
      generalize ns[k] = x at c0 hE
      by_cases he : x = n
      · subst he
        rw [if_pos rfl] at hE
        subst hE
        go_wp2
        go_ret
        exact ⟨rfl, rfl⟩
      · rw [if_neg he] at hE
        have HE := Lib.hid hE; clear hE
        have q : (x.toList == n.toList) = false := text_ne he
        have HQ := Lib.hid he; clear he
        go_wp2
        go_roundw
        case rel => exact ⟨k + 1, by go_num, by omega, trivial, (show Aside _ from HE.out)⟩
        case measure => simp [intOf]; omega
    · obtain rfl : k = ns.length := by omega
      have hr : R = false := by rw [E.out, List.drop_length]; rfl
      subst hr
      clear E
      go_wp2
      go_ret
      exact ⟨rfl, rfl⟩
theorem names_any (A : Option Addr) (c : Nat) (ns : List ByteArray) (w : World) (hx : Rd w A (tcells ns)) : Calls Tryz.prog 9 #[.slice A ns.length c] w fun e w' => e = .returned (.bool (namesB ns)) ∧ w' = w := by
  obtain ⟨R, hR⟩ : ∃ R, R = namesB ns := ⟨_, rfl⟩
  rw [← hR]
  by_cases h60 : ns.length ≤ 60
  · have hst : R = (ns.drop 0).all fun x => decide (x.size ≤ 400) := by
      rw [hR]; unfold namesB; rw [decide_eq_true h60, Bool.true_and, List.drop_zero]
    have h60' : ¬ (60 : Int) < (ns.length : Int) := by omega
    have HST := Lib.hid hst; clear hst hR
    go_enter Tryz.func9, Tryz.ntmps9
    go_wp2
    go_loopw [10] (fun s10 wr => ∃ k : Nat, s10 = .int .i64 k ∧ k ≤ ns.length ∧ wr = w ∧ Aside (R = (ns.drop k).all fun x => decide (x.size ≤ 400))) (fun s10 _ => ns.length - (intOf s10).toNat)
    case atStart => exact ⟨0, rfl, by omega, rfl, HST.out⟩
    case round =>
      obtain ⟨k, rfl, hk, rfl, E⟩ := hrel
      have k0 : (0 : Int) ≤ (k : Int) := by omega
      by_cases hlt : k < ns.length
      · have k1 : (k : Int) < (ns.length : Int) := by omega
        obtain ⟨b, off, rfl, c0⟩ := tx_at hx hlt
        have hE := E.out
        rw [List.drop_eq_getElem_cons hlt, List.all_cons] at hE
        generalize ns[k] = x at c0 hE
        clear hx E
        by_cases h1 : x.size ≤ 400
        · have g1 : ¬ (400 : Int) < (x.size : Int) := by omega
          rw [decide_eq_true h1, Bool.true_and] at hE
          have HE := Lib.hid hE; clear hE
          go_wp2
          go_roundw
          case rel => exact ⟨k + 1, by go_num, by omega, trivial, (show Aside _ from HE.out)⟩
          case measure => simp [intOf]; omega
        · have g1 : (400 : Int) < (x.size : Int) := by omega
          rw [decide_eq_false h1, Bool.false_and] at hE
          subst hE
          go_wp2
          go_ret
          exact ⟨rfl, rfl⟩
      · obtain rfl : k = ns.length := by omega
        have hr : R = true := by rw [E.out, List.drop_length]; rfl
        subst hr
        go_wp2
        go_ret
        exact ⟨rfl, rfl⟩
  · have hr : R = false := by rw [hR]; unfold namesB; rw [decide_eq_false h60, Bool.false_and]
    subst hr
    have h60' : (60 : Int) < (ns.length : Int) := by omega
    clear hR
    go_enter Tryz.func9, Tryz.ntmps9
    go_wp2
    go_ret
    exact ⟨rfl, rfl⟩
end
end Go.Proofs.YtgibcfeioljofaaGreatDoor
