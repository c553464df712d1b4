/-
  All frames of bytes; lists of rows of bytes, and whether two are the same.
-/
import Derived.Test.YtnmbjhpecblioaaGreatDoorFh
namespace Go.Proofs.YtnmbjhpecblioaaGreatDoor
set_option linter.unusedVariables false
set_option linter.unusedSimpArgs false
open Go.RowKit

/-- All frames that bytes begin with: their bytes, how many they have, the error's number. -/
def allF (xs : List UInt8) : List (List UInt8) × Nat × Nat :=
  if xs = [] then ([], 0, 0)
  else if (getF xs).2.2 ≠ 0 then ([], 0, (getF xs).2.2)
  else if h : 0 < (getF xs).2.1 ∧ 0 < xs.length then
    ((getF xs).1 :: (allF (xs.drop (getF xs).2.1)).1, (getF xs).2.1 + (allF (xs.drop (getF xs).2.1)).2.1, (allF (xs.drop (getF xs).2.1)).2.2)
  else ([], 0, 0)
  termination_by xs.length
  decreasing_by all_goals (rw [List.length_drop]; omega)

theorem getF_pos {xs : List UInt8} (h : (getF xs).2.2 = 0) : 4 ≤ (getF xs).2.1 ∧ (getF xs).2.1 ≤ xs.length := by
  unfold getF at h ⊢
  split at h
  · rename_i h1; exact absurd h h1
  · split at h
    · cases h
    · split at h
      · cases h
      · split at h
        · rename_i h1 h2 h3 h4
          rw [if_neg h1, if_neg h2, if_neg h3, if_pos h4]
          simp only
          omega
        · cases h
theorem allF_nil : allF [] = ([], 0, 0) := by unfold allF; rw [if_pos rfl]
theorem allF_err {xs : List UInt8} (h0 : xs ≠ []) (h : (getF xs).2.2 ≠ 0) : allF xs = ([], 0, (getF xs).2.2) := by
  unfold allF; rw [if_neg h0, if_pos h]
theorem allF_cons {xs : List UInt8} (h0 : xs ≠ []) (h : (getF xs).2.2 = 0) :
    allF xs = ((getF xs).1 :: (allF (xs.drop (getF xs).2.1)).1, (getF xs).2.1 + (allF (xs.drop (getF xs).2.1)).2.1, (allF (xs.drop (getF xs).2.1)).2.2) := by
  have h1 := getF_pos h
  have h2 : 0 < xs.length := by cases xs with | nil => exact absurd rfl h0 | cons a r => simp
  rw [allF, if_neg h0, if_neg (by omega), dif_pos ⟨by omega, h2⟩]

theorem infoBytes : (Tryz.prog.info? 29).map (fun i => (i.zero, i.size, i.bytes)) = some (some (.slice none 0 0), 1, 24) := by kernel_rfl

/-- v is a list of rows of bytes, all of it newer than B. -/
def AllIs (w : World) (B : Nat) (v : Value) (P : List (Option Addr × Nat × List UInt8)) : Prop :=
  w.ownsRow B 29 1 v P.length (P.map partV) ∧ ∀ p ∈ P, w.ownsRow B 5 1 (partV p) p.2.2.length (p.2.2.map Bv)
theorem AllIs.below {w w' : World} {B : Nat} {v : Value} {P : List (Option Addr × Nat × List UInt8)} (h : AllIs w B v P) (hb : Below w.heap.size w w') : AllIs w' B v P :=
  ⟨own_moved h.1 fun g hg => hb.block g (h.1.lt g hg).2, fun p hp => own_moved (h.2 p hp) fun g hg => hb.block g ((h.2 p hp).lt g hg).2⟩
theorem AllIs.snoc {w w1 : World} {B : Nat} {v v1 : Value} {P : List (Option Addr × Nat × List UInt8)} {p : Option Addr × Nat × List UInt8} (h : AllIs w B v P) (hp : w.ownsRow B 5 1 (partV p) p.2.2.length (p.2.2.map Bv))
    (h1 : w1.ownsRow B 29 1 v1 (P.length + 1) (P.map partV ++ [partV p])) (hg : w.grownBy w1 v.ownBlock) : AllIs w1 B v1 (P ++ [p]) := by
  have hk : ∀ q : Option Addr × Nat × List UInt8, w.ownsRow B 5 1 (partV q) q.2.2.length (q.2.2.map Bv) → w1.ownsRow B 5 1 (partV q) q.2.2.length (q.2.2.map Bv) := fun q hq =>
    own_moved hq fun g hgq => hg.block g (hq.lt g hgq).2 (fun e => own_own hq h.1 (by decide) hgq e.symm)
  refine ⟨by rw [List.length_append, List.map_append]; exact h1, fun q hq => ?_⟩
  rcases List.mem_append.1 hq with hq | hq
  · exact hk q (h.2 q hq)
  · rw [List.mem_singleton] at hq
    subst hq
    exact hk _ hp

theorem AllIs.rd {w : World} {B : Nat} {A : Option Addr} {n c : Nat} {P : List (Option Addr × Nat × List UInt8)} (h : AllIs w B (.slice A n c) P) : Rd w A (P.map partV) ∧ ∀ p ∈ P, Rd w p.1 (p.2.2.map Bv) := by
  refine ⟨?_, fun p hp => ?_⟩
  · obtain ⟨A', c', e, r, _⟩ := own_rd h.1
    injection e with e1 _ _; subst e1; exact r
  · obtain ⟨A', c', e, r, _⟩ := own_rd (h.2 p hp)
    injection e with e1 _ _; rw [e1]; exact r
theorem allF_le (xs : List UInt8) : (allF xs).1.length ≤ xs.length ∧ ∀ l ∈ (allF xs).1, l.length ≤ xs.length := by
  generalize hn : xs.length = n
  induction n using Nat.strongRecOn generalizing xs with
  | ind n ih =>
    by_cases h0 : xs = []
    · subst h0; rw [allF_nil]; simp
    · by_cases he : (getF xs).2.2 = 0
      · rw [allF_cons h0 he]
        have hp := getF_pos he
        have hl := getF_len xs
        obtain ⟨i1, i2⟩ := ih (xs.length - (getF xs).2.1) (by omega) (xs.drop (getF xs).2.1) (by rw [List.length_drop])
        refine ⟨by simp only [List.length_cons]; omega, fun l hm => ?_⟩
        rcases List.mem_cons.1 hm with rfl | hm
        · omega
        · have := i2 l hm; omega
      · rw [allF_err h0 he]; simp

section
set_option maxHeartbeats 1600000
set_option maxRecDepth 100000
theorem rall_any (A : Option Addr) (ca : Nat) (xs : List UInt8) (w : World) (hx : Rd w A (xs.map Bv)) (hc : xs.length ≤ ca) (hl : xs.length ≤ 1000000) (hca : ca ≤ 9223372036854775807) :
    Calls Tryz.prog 37 #[.slice A xs.length ca] w fun e w' => ∃ v P, e = .returned (.tuple #[v, .int .i64 ((allF xs).2.1 : Nat), .int .i64 ((allF xs).2.2 : Nat)]) ∧
      AllIs w' w.heap.size v P ∧ P.map (·.2.2) = (allF xs).1 ∧ Below w.heap.size w w' := by
  obtain ⟨i0, hi, hz0, hz1, hz2⟩ := info_parts infoBytes
  go_enter Tryz.func37, Tryz.ntmps37
  go_wp2
  go_loopw [5, 6] (fun v i wr => ∃ (k : Nat) (P : List (Option Addr × Nat × List UInt8)), k ≤ xs.length ∧ P.length ≤ k ∧ i = .int .i64 k ∧ AllIs wr w.heap.size v P ∧ Below w.heap.size w wr ∧
      allF xs = (P.map (·.2.2) ++ (allF (xs.drop k)).1, k + (allF (xs.drop k)).2.1, (allF (xs.drop k)).2.2)) (fun _ i _ => xs.length - (intOf i).toNat)
  case atStart => exact ⟨0, [], by omega, by simp, rfl, ⟨own_empty _ _, by simp⟩, (Below.refl _ _).alloc (Nat.le_refl _) _, by simp⟩
  case round =>
    obtain ⟨k, P, hk, hPk, rfl, hP, hb, hall⟩ := hrel
    by_cases hlt : k < xs.length
    · have hne : xs.drop k ≠ [] := by intro h; have := congrArg List.length h; simp at this; omega
      obtain ⟨b, off, rfl, -⟩ := hx.byte hlt
      have hdl : (xs.drop k).length = xs.length - k := List.length_drop
      have hxd : Rd wr (some ⟨b, off + k, none⟩) ((xs.drop k).map Bv) := by rw [List.map_drop]; exact (hx.below hb).dropf k
      have hgp := getF_pos (xs := xs.drop k)
      have hae := allF_err hne
      have hac := allF_cons hne
      obtain ⟨A1, c1, rfl, -⟩ := own_rd hP.1
      obtain ⟨ds, hds⟩ : ∃ ds, ds = xs.drop k := ⟨_, rfl⟩
      have hdd : ∀ j, ds.drop j = xs.drop (k + j) := fun j => by rw [hds, List.drop_drop]
      rw [← hds] at hall hdl hxd hgp hae hac
      have HALL := Lib.hid hall; clear hall
      have HDL := Lib.hid hdl; clear hdl
      have HAE := Lib.hid hae; clear hae
      have HAC := Lib.hid hac; clear hac
      have HGP := Lib.hid hgp; clear hgp
      have HDD := Lib.hid hdd; clear hdd hds hne
      have g0 : (0 : Int) ≤ (k : Int) := by omega
      have g1 : (k : Int) ≤ (xs.length : Int) := by omega
      go_wp2_with fail
      refine (rget_len _ _ _ ds wr HDL.out hxd (by omega) (by omega) (by omega)).mono ?_
      rintro e w2 ⟨v2, rfl, own2, hb2⟩
      obtain ⟨A2, c2, rfl, -⟩ := own_rd own2
      have hP2 := hP.below hb2
      have hb2' := hb.trans (hb2.mono hb.size)
      have own2' := own2.lower hb.size
      clear own2 hP hxd
      obtain ⟨r, hr⟩ : ∃ r, r = getF ds := ⟨_, rfl⟩
      have hae := HAE.out
      have hac := HAC.out
      have hgp := HGP.out
      rw [← hr] at own2' hae hac hgp ⊢
      clear HAE HAC HGP
      have HR := Lib.hid hr; clear hr
      obtain ⟨zs, m, c⟩ := r
      simp only at own2' hae hac hgp ⊢
      by_cases hc0 : c = 0
      · subst hc0
        have hac := hac rfl
        obtain ⟨hg1, hg2⟩ := hgp rfl
        rw [HDD.out] at hac
        have hst : allF xs = ((P ++ [(A2, c2, zs)]).map (·.2.2) ++ (allF (xs.drop (k + m))).1, (k + m) + (allF (xs.drop (k + m))).2.1, (allF (xs.drop (k + m))).2.2) := by
          rw [HALL.out, hac]; simp [Nat.add_assoc]
        clear hac hae hgp HALL
        have HST := Lib.hid hst; clear hst
        have hmx : k + m ≤ xs.length := by have := HDL.out; omega
        go_wp2_with (first
          | (at_builtin; go_must (refine wpList_append_own _ rfl _ _ 35 rfl w.heap.size 29 i0 (.slice none 0 0) 1 24 Tryz.underlying35 hi hz0 hz1 hz2 rfl (by decide) _ P.length (P.map partV) rfl (hP2.1.alloc _) ⟨w2.heap.size, 0, none⟩ 1 1 [.slice A2 zs.length c2] rfl rfl (World.news_of_block (heap_alloc_new _ _)) (by simp [Value.oneCell']) (by unfold maxLen; omega) (by omega) (by have := hb2'.size; simp; omega) ?_; intro v3 w3 own3 grow3 _))
          | fail)
        have hP3 : AllIs w3 w.heap.size v3 (P ++ [(A2, c2, zs)]) := (hP2.below ((Below.refl _ w2).alloc (Nat.le_refl _) _)).snoc (own2'.alloc _) own3 grow3
        have hb3 := (hb2'.alloc hb2'.size (.cells #[.slice A2 zs.length c2] 29)).grown grow3 (by have := hb2'.size; simp; omega) (fun k h => (hP2.1.lt k h).1)
        go_wp2
        go_roundw
        case rel => exact ⟨k + m, P ++ [(A2, c2, zs)], hmx, by rw [List.length_append, List.length_singleton]; omega, by go_num, hP3, hb3, HST.out⟩
        case measure => simp [intOf]; omega
      · have hae := hae hc0
        have hst : allF xs = (P.map (·.2.2), k, c) := by rw [HALL.out, hae]; simp
        clear hac hae hgp HALL
        have HST := Lib.hid hst; clear hst
        have hc1 : ((c : Int) != 0) = true := by rw [bne_iff_ne]; omega
        go_wp2
        go_ret3
        exact ⟨_, P, by rw [HST.out]; rfl, hP2, by rw [HST.out], hb2'⟩
    · obtain rfl : k = xs.length := by omega
      have e : allF xs = (P.map (·.2.2), xs.length, 0) := by rw [hall, List.drop_length, allF_nil]; simp
      have E := Lib.hid e; clear e hall
      obtain ⟨A1, c1, rfl, -⟩ := own_rd hP.1
      go_wp2
      go_ret3
      exact ⟨_, P, by rw [E.out]; rfl, hP, by rw [E.out], hb⟩
end
end Go.Proofs.YtnmbjhpecblioaaGreatDoor
