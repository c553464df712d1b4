/-
  A row of numbers sorted; a row of numbers in memory of its own. Numbers, each once, rising.
-/
import Derived.Lib.SliceRun
import Derived.Test.YtjgappbomohlcaaGreatDoorKUpd
import Derived.Test.YtjgappbomohlcaaGreatDoorShelfC
import Derived.Test.YtjgappbomohlcaaGreatDoorK00
namespace Go.Proofs.YtjgappbomohlcaaGreatDoor
section
set_option linter.unusedVariables false
set_option linter.unusedSimpArgs false
section
set_option linter.unusedVariables false
set_option linter.unusedSimpArgs false
open Go.RowKit Go.Sort
theorem infoU64 : (Tryz.prog.info? 23).map (fun i => (i.zero, i.size, i.bytes)) = some (some (.int .u64 0), 1, 8) := by kernel_rfl
theorem bitLen_le (n : Nat) (h : n ≤ 1000000) : Lib.bitLen n ≤ 100000 := by
  have : ∀ f x, Lib.bitLenAux f x ≤ f := by
    intro f
    induction f with
    | zero => intro x; exact Nat.le_refl _
    | succ f ih => intro x; unfold Lib.bitLenAux; split; · omega
                   · have := ih (x / 2); omega
  have := this 64 n
  unfold Lib.bitLen
  omega
theorem un_cell' (l : List Nat) : ∀ u ∈ l.map Un, u.oneCell' = true := by
  intro u hu
  obtain ⟨n, _, rfl⟩ := List.mem_map.1 hu
  rfl
theorem u_nil {w : World} {l : List Nat} (h : Rd w none (l.map Un)) : l = [] := by
  cases l with
  | nil => rfl
  | cons x r => obtain ⟨b, off, e, _⟩ := h 0 (Un x) rfl; cases e
section
set_option maxHeartbeats 3200000
set_option maxRecDepth 100000
theorem sort_any (b c : Nat) (tl : List Value) (d : Array Nat) (w : World) (h : UR w b tl d) (hz : d.size ≤ 1000000) :
    Calls Tryz.prog 100 #[.slice (some ⟨b, 0, none⟩) d.size c] w fun e w' => e = .returned (.tuple #[]) ∧ ∃ d' : Array Nat, d'.size = d.size ∧ d'.toList.Perm d.toList ∧ d'.toList.Pairwise (· ≤ ·) ∧ SO w b tl d' w' := by
  obtain ⟨n, hn⟩ : ∃ n, n = d.size := ⟨_, rfl⟩
  rw [← hn] at hz ⊢
  have hl := bitLen_le n hz
  have hP := fun W => Tryz.bits_Len (n : Int) W (by omega) (by omega)
  rw [show ((n : Int).toNat) = n from rfl] at hP
  generalize Lib.bitLen n = lim at hl hP
  have hQ := pdq_any b c n tl hz n 0 n lim d w (by omega) h hn (by omega) (Nat.le_refl _) hl (Or.inl rfl)
  have HP := Lib.hid hP; have HQ := Lib.hid hQ; have HN := Lib.hid hn
  clear hP hQ hn h
  go_enter Tryz.func100, Tryz.ntmps100
  go_wp2_with (first
    | (go_at_call 99; refine (HP.out _).mono ?_; rintro e w1 ⟨rfl, rfl⟩)
    | (go_at_call 124; refine HQ.out.mono ?_; rintro e w2 ⟨rfl, d', ⟨hp, hs⟩, hso⟩; have HF := Lib.hid hso; have HPP := Lib.hid hp; have HSS := Lib.hid hs; clear hso hp hs)
    | fail)
  go_end0
  have hp := HPP.out
  have hsz : d'.size = n := hp.1.trans HN.out.symm
  refine ⟨rfl, d', hsz, ?_, ?_, HF.out⟩
  · have h2 := hp.2.2
    rw [show d'.extract 0 n = d' by rw [← hsz]; simp, show d.extract 0 n = d by rw [HN.out]; simp] at h2
    exact h2
  · rw [List.pairwise_iff_getElem]
    intro i j hi hj hij
    have h3 := HSS.out i j (by omega) hij (by simp at hj; omega)
    simp at hi hj
    rw [getN hi, getN hj] at h3
    simp [ltN] at h3
    simpa using h3
theorem uclone_any (A : Option Addr) (c : Nat) (l : List Nat) (w : World) (hx : Rd w A (l.map Un)) (hl : l.length ≤ 1000000) :
    Calls Tryz.prog 90 #[.slice A l.length c] w fun e w' => ∃ v, e = .returned v ∧ w'.ownsRow w.heap.size 23 1 v l.length (l.map Un) ∧ Below w.heap.size w w' := by
  obtain ⟨i0, hi, hz0, hz1, hz2⟩ := info_parts infoU64
  cases A with
  | none =>
    obtain rfl := u_nil hx
    have heq := fun (W : World) => Go.Lib.run_eql_slice_nil (P := Tryz.prog) W 49 23 none 0 c 0 0 Tryz.underlying49
    simp only [Option.isNone_none, Option.isNone_some] at heq
    go_enter Tryz.func90, Tryz.ntmps90
    go_wp2
    go_ret
    exact ⟨_, rfl, World.ownsRow_nil _ _ _ _, Below.refl _ _⟩
  | some ad =>
    have hown : (w.alloc (.cells #[] 23)).ownsRow w.heap.size 23 1 (.slice (some ⟨w.heap.size, 0, none⟩) 0 0) 0 [] := World.ownsRow_made w #[] 0 (Nat.le_refl _) (by decide) rfl
    have hbw : RowKit.Below w.heap.size w (w.alloc (.cells #[] 23)) := (RowKit.Below.refl _ w).alloc (Nat.le_refl _) _
    have HBW := Lib.hid hbw; clear hbw
    have hx1 := hx.alloc (.cells #[] 23)
    have HX := Lib.hid hx1; clear hx hx1
    have HO := Lib.hid hown; clear hown
    have heq := fun (W : World) => Go.Lib.run_eql_slice_nil (P := Tryz.prog) W 49 23 (some ad) l.length c 0 0 Tryz.underlying49
    simp only [Option.isNone_none, Option.isNone_some] at heq
    have HC := Lib.hid (un_cell' l)
    go_enter Tryz.func90, Tryz.ntmps90
    go_wp2_with (first
      | (at_builtin; go_must (refine wpList_append_own _ rfl _ _ 49 rfl w.heap.size 23 i0 (.int .u64 0) 1 8 Tryz.underlying49 hi hz0 hz1 hz2 rfl (by decide) _ 0 [] rfl HO.out ad l.length c (l.map Un) rfl (by rw [List.length_map]; omega) (rd_cells HX.out) HC.out (by unfold maxLen; omega) (by omega) (by simp) ?_; intro v3 w3 own3 grow3 _))
      | fail)
    have hb3 : RowKit.Below w.heap.size w w3 := HBW.out.grown grow3 (by simp) (fun k h => (HO.out.lt k h).1)
    rw [Nat.zero_add, List.nil_append] at own3
    have HB3 := Lib.hid hb3; clear hb3 grow3
    have HO3 := Lib.hid own3; clear own3
    go_wp2
    go_ret
    exact ⟨_, rfl, HO3.out, HB3.out⟩
end
end
section
set_option linter.unusedVariables false
set_option linter.unusedSimpArgs false
open Go.RowKit Go.Sort Go.Lib
theorem compact_ris {d : Array Nat} (hs : ∀ i j, i < j → j < d.size → d[i]! ≤ d[j]!) : ∀ m, m ≤ d.size → (RisN (compactUpTo d m) ∧ ∀ x, x ∈ compactUpTo d m ↔ ∃ j < m, d[j]! = x)
  | 0, _ => by simp [compactUpTo]
  | m + 1, hm => by
    obtain ⟨h1, h2⟩ := compact_ris hs m (by omega)
    rw [compactUpTo_succ]
    by_cases hk : keeps d m = true
    · rw [if_pos hk]
      refine ⟨?_, fun x => ?_⟩
      · unfold RisN
        rw [List.pairwise_append]
        refine ⟨h1, by simp, fun x hx y hy => ?_⟩
        rw [List.mem_singleton] at hy
        subst hy
        obtain ⟨j, hj, rfl⟩ := (h2 x).1 hx
        have hle := hs j m hj (by omega)
        have hk2 : m = 0 ∨ d[m]! ≠ d[m - 1]! := by simpa [keeps] using hk
        rcases hk2 with hk2 | hk2
        · omega
        · have h3 : d[j]! ≤ d[m - 1]! := by
            by_cases e : j = m - 1
            · rw [e]; exact Nat.le_refl _
            · exact hs j (m - 1) (by omega) (by omega)
          have h4 := hs (m - 1) m (by omega) (by omega)
          omega
      · rw [List.mem_append, h2, List.mem_singleton]
        constructor
        · rintro (⟨j, hj, e⟩ | rfl)
          · exact ⟨j, by omega, e⟩
          · exact ⟨m, by omega, rfl⟩
        · rintro ⟨j, hj, e⟩
          by_cases ej : j = m
          · subst ej; exact .inr e.symm
          · exact .inl ⟨j, by omega, e⟩
    · rw [if_neg hk, List.append_nil]
      refine ⟨h1, fun x => ?_⟩
      rw [h2]
      have hk2 : ¬ (m = 0 ∨ d[m]! ≠ d[m - 1]!) := by simpa [keeps] using hk
      rw [not_or] at hk2
      have e1 : d[m]! = d[m - 1]! := by by_cases e : d[m]! = d[m - 1]!; exact e; exact absurd e hk2.2
      constructor
      · rintro ⟨j, hj, e⟩; exact ⟨j, by omega, e⟩
      · rintro ⟨j, hj, e⟩
        by_cases ej : j = m
        · exact ⟨m - 1, by omega, by rw [← e1, ← ej]; exact e⟩
        · exact ⟨j, by omega, e⟩
theorem compact_rise {d : Array Nat} (hs : d.toList.Pairwise (· ≤ ·)) {l : List Nat} (hl : d.toList.Perm l) : compactUpTo d d.size = riseN l := by
  have h := compact_ris (d := d) (fun i j hij hj => by
    rw [List.pairwise_iff_getElem] at hs
    have := hs i j (by simp; omega) (by simpa using hj) hij
    rw [getN (by omega), getN hj]
    simpa using this) d.size (Nat.le_refl _)
  refine rise_of h.1 fun x => ?_
  rw [h.2, ← hl.mem_iff]
  constructor
  · rintro ⟨j, hj, rfl⟩; rw [getN hj]; simp
  · intro hx
    obtain ⟨j, hj, e⟩ := List.getElem_of_mem hx
    exact ⟨j, by simpa using hj, by rw [getN (by simpa using hj)]; simpa using e⟩
theorem UR.holds {w : World} {b : Nat} {tl : List Value} {d : Array Nat} (h : UR w b tl d) : Holds Un w b 0 d := fun j hj => by
  rw [Nat.zero_add]; exact ⟨h.at hj, h.free j⟩
theorem ur_of {w : World} {B g cap : Nat} {l : List Nat} (h : w.ownsRow B 23 1 (.slice (some ⟨g, 0, none⟩) l.length cap) l.length (l.map Un)) : ∃ tl, UR w g tl l.toArray ∧ B ≤ g ∧ l.length ≤ cap ∧ cap ≤ maxLen := by
  rcases h.2 with ⟨h1, _⟩ | ⟨g', cap', cur, e, hB, hg, hnc, hcm, hcs, htk⟩
  · cases h1
  · injection e with e1 e2 e3
    injection e1 with e1; injection e1 with e1
    subst e1; subst e3
    refine ⟨cur.toList.drop l.length, ?_, hB, hnc, hcm⟩
    unfold UR
    rw [hg]
    congr 2
    apply Array.ext'
    rw [Nat.mul_one] at htk
    show cur.toList = l.map Un ++ cur.toList.drop l.length
    rw [← htk]; simp
theorem put_moved {w : World} {g n : Nat} {d : Array Nat} : Mv (· = g) w (putRow Un (Sort.ahead w n) g 0 d) := by
  refine ⟨rfl, rfl, rfl, ?_, ?_⟩
  · rw [size_putRow]; exact Nat.le_refl _
  · intro k hk hkg
    show (mapBlock (Sort.ahead w n) g _).heap[k]? = _
    unfold mapBlock
    show (w.heap.modify g _)[k]? = w.heap[k]?
    rw [Array.getElem?_modify, if_neg (fun e => hkg e.symm)]
theorem put_rd {w : World} {g n : Nat} {d d' : Array Nat} (hH : Holds Un w g 0 d) (hs : d'.size = d.size) (k : Nat) : Rd (putRow Un (Sort.ahead w n) g 0 d') (some ⟨g, 0, none⟩) ((d'.toList.take k).map Un) := by
  have h1 : Holds Un (putRow Un (Sort.ahead w n) g 0 d') g 0 d' := holds_putRow Un _ g 0 d d' (holds_ahead Un w n g 0 d hH) hs
  intro j v hv
  refine ⟨g, 0, rfl, ?_⟩
  rw [List.getElem?_map, List.getElem?_take] at hv
  split at hv
  · have hj : j < d'.size := by
      cases hd : d'.toList[j]? with
      | none => rw [hd] at hv; cases hv
      | some x => simpa using (List.getElem?_eq_some_iff.1 hd).1
    rw [(h1 j hj).1, ← hv]
    simp [hj]
  · cases hv
theorem guardU (T : TypeId) : GuardAt Tryz.prog T Un := fun op a b x y w => GuardAt.int Tryz.prog T .u64 op a b (x : Int) (y : Int) w
section
set_option maxHeartbeats 3200000
set_option maxRecDepth 100000
theorem ins_nil (w : World) : Calls Tryz.prog 142 #[.slice none 0 0, .int .i64 0, .int .i64 0] w fun e w' => e = .returned (.tuple #[]) ∧ w' = w := by
  go_enter Tryz.func142, Tryz.ntmps142
  go_wp2
  go_loopw [6] (fun s6 wr => s6 = .int .i64 1 ∧ wr = w) (fun _ _ => 0)
  case atStart => exact ⟨rfl, rfl⟩
  case round =>
    obtain ⟨rfl, rfl⟩ := hrel
    go_wp2
    go_end0
    exact ⟨rfl, rfl⟩
theorem pdq_nil (lim : Int) (w : World) : Calls Tryz.prog 124 #[.slice none 0 0, .int .i64 0, .int .i64 0, .int .i64 lim] w fun e w' => e = .returned (.tuple #[]) ∧ w' = w := by
  have HI := Lib.hid (ins_nil w)
  go_enter Tryz.func124, Tryz.ntmps124
  go_wp2_with fail
  go_loopw [1, 2] (fun s1 s2 wr => s1 = .int .i64 0 ∧ s2 = .int .i64 0 ∧ wr = w) (fun _ _ _ => 0)
  case atStart => exact ⟨rfl, rfl, rfl⟩
  case round =>
    obtain ⟨rfl, rfl, rfl⟩ := hrel
    go_wp2_with (first
      | (go_at_call 142; refine HI.out.mono ?_; rintro e w2 ⟨rfl, rfl⟩)
      | fail)
    refine bodyPost_ret (results_none rfl _ _ _) rfl ?_
    exact ⟨rfl, rfl⟩
theorem sort_nil (w : World) : Calls Tryz.prog 100 #[.slice none 0 0] w fun e w' => e = .returned (.tuple #[]) ∧ w' = w := by
  have hP := fun W => Tryz.bits_Len (0 : Int) W (by omega) (by omega)
  generalize Lib.bitLen (Int.toNat 0) = lim at hP
  have HP := Lib.hid hP; clear hP
  have HQ := Lib.hid (pdq_nil lim w)
  go_enter Tryz.func100, Tryz.ntmps100
  go_wp2_with (first
    | (go_at_call 99; refine (HP.out _).mono ?_; rintro e w1 ⟨rfl, rfl⟩)
    | (go_at_call 124; refine HQ.out.mono ?_; rintro e w2 ⟨rfl, rfl⟩)
    | fail)
  go_end0
  exact ⟨rfl, rfl⟩
theorem compact_nil (w : World) : Calls Tryz.prog 101 #[.slice none 0 0] w fun e w' => e = .returned (.slice none 0 0) ∧ w' = w := by
  go_enter Tryz.func101, Tryz.ntmps101
  go_wp2
  go_ret
  exact ⟨rfl, rfl⟩
theorem rising_any (A : Option Addr) (c : Nat) (l : List Nat) (w : World) (hx : Rd w A (l.map Un)) (hl : l.length ≤ 1000000) :
    Calls Tryz.prog 84 #[.slice A l.length c] w fun e w' => ∃ A' c', e = .returned (.slice A' (riseN l).length c') ∧ Rd w' A' ((riseN l).map Un) ∧ (riseN l).length ≤ c' ∧ c' ≤ maxLen ∧ Below w.heap.size w w' := by
  have HC := Lib.hid (uclone_any A c l w hx hl)
  have HSN := Lib.hid (fun W => sort_nil W)
  have HCN := Lib.hid (fun W => compact_nil W)
  clear hx
  go_enter Tryz.func84, Tryz.ntmps84
  go_wp2_with fail
  refine HC.out.mono ?_
  rintro e w1 ⟨v, rfl, hown, hb1⟩
  rcases hown.2 with ⟨rfl, h0⟩ | ⟨g, cap, cur, rfl, hB, hg, hnc, hcm, hcs, htk⟩
  · have hnil : l = [] := List.eq_nil_of_length_eq_zero h0
    have HN := Lib.hid hnil; have HB1 := Lib.hid hb1
    clear hnil hown h0 hb1 HC
    go_wp2_with (first
      | (go_at_call 100; refine (HSN.out _).mono ?_; rintro e w2 ⟨rfl, rfl⟩)
      | (go_at_call 101; refine (HCN.out _).mono ?_; rintro e w2 ⟨rfl, rfl⟩)
      | fail)
    go_ret
    rw [HN.out]
    exact ⟨none, 0, rfl, Rd.nil _ _, Nat.zero_le _, Nat.zero_le _, HB1.out⟩
  · obtain ⟨tl, hu, -, hcap, hcapm⟩ := ur_of hown
    have hs := sort_any g cap tl l.toArray w1 hu (by simpa using hl)
    rw [show l.toArray.size = l.length by simp] at hs
    have HS := Lib.hid hs; have HB1 := Lib.hid hb1; have HG := Lib.hid hB; have HCAP := Lib.hid hcap; have HCM := Lib.hid hcapm
    clear hown hs hu hg hcs htk hb1 hB HC hcap hcapm hnc hcm
    go_wp2_with fail
    refine HS.out.mono ?_
    rintro e w2 ⟨rfl, d', hsz, hp, hsr, hso⟩
    have hsz2 : d'.size = l.length := by simpa using hsz
    have hcc := AnyE.slices_Compact Tryz.compE Un (fun x => rfl) ⟨fun x y w => by simp [Un, binOp, Op.intCmp]; congr 1; rw [Bool.eq_iff_iff]; simp; omega, guardU _⟩
      ⟨fun x y w => by simp [Un, binOp, Op.intCmp, bne]; congr 1; rw [Bool.eq_iff_iff]; simp; omega, guardU _⟩ 0 (fun W => by kernel_rfl) g 0 cap d' w2 hso.1.holds (by omega) (by have := HCAP.out; omega)
    rw [hsz2] at hcc
    have e1 := compact_rise hsr (l := l) (by simpa using hp)
    rw [hsz2] at e1
    rw [e1] at hcc
    have HCC := Lib.hid hcc
    have HSO := Lib.hid hso
    have hrl := riseN_len l
    clear hcc hso hp hsr e1 HS
    go_wp2_with (first
      | (go_at_call 101; refine HCC.out.mono ?_; rintro e w3 ⟨rfl, q, hw3⟩; have HW3 := Lib.hid hw3; clear hw3)
      | fail)
    go_ret
    have hw3 := HW3.out
    refine ⟨some ⟨g, 0, none⟩, cap, rfl, ?_, by have := HCAP.out; omega, HCM.out, ?_⟩
    · rw [hw3]
      have := put_rd (n := q) (d' := (riseN l ++ List.replicate (l.length - (riseN l).length) 0).toArray) HSO.out.1.holds (by simp; omega) (riseN l).length
      simpa using this
    · rw [hw3]
      exact HB1.out.trans (((HSO.out.2.trans put_moved (fun _ _ e => e)).belowB HB1.out.size (fun k hk e => by have := HG.out; omega)))
end
end
end
end Go.Proofs.YtjgappbomohlcaaGreatDoor
