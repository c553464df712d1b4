/-
  Values sorted by their order: the program's Sort.
-/
import Derived.Test.YtlaodfkcfclpmaaFlv
import Derived.Test.YtlaodfkcfclpmaaShelf2
import Derived.Lib.SliceRun
namespace Go.Proofs.Ytlaodfkcfclpmaa
set_option linter.unusedVariables false
set_option linter.unusedSimpArgs false
open Go.RowKit

def Ue (x : UInt64) : Value := .int .u64 (x.toNat : Int)
def cfU (x y : UInt64) : Int := ordN x.toNat y.toNat
theorem ltU (x y : UInt64) : ltOf cfU x y = decide (keyN x.toNat < keyN y.toNat) := by
  unfold ltOf cfU ordN
  by_cases h1 : keyN x.toNat < keyN y.toNat
  · simp [h1]
  · by_cases h2 : keyN y.toNat < keyN x.toNat <;> simp [h1, h2]
theorem swoU : Go.Sort.SWO (ltOf cfU) where
  irrefl x := by rw [ltU]; simp
  trans x y z h1 h2 := by rw [ltU] at *; simp at *; omega
  ntrans x y z h1 h2 := by rw [ltU] at *; simp at *; omega
theorem infoU64 : (Try.prog.info? 22).map (fun i => (i.zero, i.size, i.bytes)) = some (some (.int .u64 0), 1, 8) := by kernel_rfl
section
set_option maxHeartbeats 1600000
set_option maxRecDepth 100000
theorem less_any (x y : UInt64) (W : World) : Calls Try.prog 56 #[.int .u64 (x.toNat : Int), .int .u64 (y.toNat : Int)] W fun e w' => e = .returned (.int .i64 (cfU x y)) ∧ ∃ q, w' = W.drewN q := by
  have hx : x.toNat < 18446744073709551616 := x.toNat_lt
  have hy : y.toNat < 18446744073709551616 := y.toNat_lt
  unfold cfU
  generalize x.toNat = a at *
  generalize y.toNat = b at *
  go_enter Try.func56, Try.ntmps56
  go_wp2_with fail
  refine (order_any a b W hx hy).mono ?_
  rintro e w1 ⟨rfl, rfl⟩
  go_wp2
  go_ret
  exact ⟨rfl, 0, rfl⟩
theorem cmpU (blk off size : Nat) (w : World) : CmpReads Try.prog 56 #[] Ue cfU blk off size w := fun _ _ _ _ x y => less_any x y _
theorem holds_own {w : World} {B g n cap : Nat} {d : Array UInt64} (h : w.ownsRow B 22 1 (.slice (some ⟨g, 0, none⟩) n cap) n (d.toList.map Ue)) (hn : d.size = n) : Go.Sort.Holds Ue w g 0 d ∧ g < w.heap.size ∧ B ≤ g := by
  rcases h.2 with ⟨h1, _⟩ | ⟨g', cap', cur, e, hB, hg, hnc, hcm, hcs, htk⟩
  · cases h1
  · injection e with e1 e2 e3
    injection e1 with e1
    injection e1 with e1
    subst e1
    refine ⟨fun j hj => ?_, blk_lt hg, hB⟩
    have hr : cur[j]? = some (Ue d[j]!) := by
      have h1 : (cur.toList.take (n * 1))[j]? = (d.toList.map Ue)[j]? := by rw [htk]
      rw [List.getElem?_take, if_pos (by omega), List.getElem?_map] at h1
      rw [← Array.getElem?_toList, h1]
      simp [hj]
    refine ⟨?_, ?_⟩
    · rw [Nat.zero_add, cell_blk hg j]; exact hr
    · rw [Nat.zero_add]; exact free_blk hg j
theorem sort_world {w : World} {g n : Nat} {d d' : Array UInt64} {os : Array Obj} (hH : Go.Sort.Holds Ue w g 0 d) (hs : d'.size = d.size) (hg : g < w.heap.size) {B : Nat} (hB : B ≤ g) (hBw : B ≤ w.heap.size) :
    Rd (sortWorld Ue w g 0 n d' os) (some ⟨g, 0, none⟩) (d'.toList.map Ue) ∧ RowKit.Below B w (sortWorld Ue w g 0 n d' os) := by
  have h1 : Go.Sort.Holds Ue (sortWorld Ue w g 0 n d' os) g 0 d' :=
    Go.Sort.holds_grow Ue _ os g 0 d' (by rw [Go.Sort.size_putRow]; exact hg) (Go.Sort.holds_putRow Ue _ g 0 d d' (Go.Sort.holds_ahead Ue w n g 0 d hH) hs)
  constructor
  · intro k v hv
    refine ⟨g, 0, rfl, ?_⟩
    have hk : k < d'.size := by have := (List.getElem?_eq_some_iff.1 hv).1; simpa using this
    rw [(h1 k hk).1, ← hv]
    simp [hk]
  · refine ⟨rfl, rfl, rfl, ?_, ?_⟩
    · show w.heap.size ≤ (Go.Sort.grow (Go.Sort.putRow Ue (Go.Sort.ahead w n) g 0 d') os).heap.size
      rw [Go.Sort.size_grow, Go.Sort.size_putRow]
      exact Nat.le_add_right _ _
    · intro k hk
      show (Go.Sort.grow (Go.Sort.putRow Ue (Go.Sort.ahead w n) g 0 d') os).heap[k]? = w.heap[k]?
      rw [Go.Sort.heap_grow_old _ os (by rw [Go.Sort.size_putRow]; show k < w.heap.size; omega)]
      show (Go.Sort.mapBlock (Go.Sort.ahead w n) g _).heap[k]? = _
      unfold Go.Sort.mapBlock
      show (w.heap.modify g _)[k]? = w.heap[k]?
      rw [Array.getElem?_modify, if_neg (by omega)]
theorem clone_nil (c : Nat) (w : World) : Calls Try.prog 54 #[.slice none 0 c] w fun e w' => e = .returned (.slice none 0 0) ∧ w = w' := by
  have heq := fun (W : World) => Go.Lib.run_eql_slice_nil (P := Try.prog) W 35 22 none 0 c 0 0 Try.underlying35
  go_enter Try.func54, Try.ntmps54
  go_wp2
  go_ret
  exact ⟨rfl, rfl⟩
theorem clone_some (ad : Addr) (c : Nat) (xs : List Value) (w : World) (hx : Rd w (some ad) xs) (h1 : ∀ u ∈ xs, u.oneCell' = true) (hl : xs.length ≤ 1000) :
    Calls Try.prog 54 #[.slice (some ad) xs.length c] w fun e w' => ∃ v, e = .returned v ∧ w'.ownsRow w.heap.size 22 1 v xs.length xs ∧ RowKit.Below w.heap.size w w' := by
  obtain ⟨i0, hi, hz0, hz1, hz2⟩ := info_parts infoU64
  have heq := fun (W : World) => Go.Lib.run_eql_slice_nil (P := Try.prog) W 35 22 (some ad) xs.length c 0 0 Try.underlying35
  have hown := own_empty w 22
  have hxr := hx.alloc (.cells #[] 22)
  have HX := Lib.hid hxr; clear hxr hx
  have HO := Lib.hid hown; clear hown
  have H1 := Lib.hid h1; clear h1
  go_enter Try.func54, Try.ntmps54
  go_wp2_with (first | (at_builtin; go_must (refine wpList_append_rd rfl _ _ 35 rfl w.heap.size 22 i0 (.int .u64 0) 8 Try.underlying35 hi hz0 hz1 hz2 rfl _ 0 [] rfl HO.out (some ad) c xs rfl HX.out H1.out (by unfold maxLen; omega) (by omega) (by simp) ?_; intro v' w1 hown' hgrow)) | fail)
  rw [Nat.zero_add, List.nil_append] at hown'
  have hb := (((RowKit.Below.refl _ w).alloc (Nat.le_refl _) (.cells #[] 22))).grown hgrow (by simp) (fun k e => (HO.out.lt k e).1)
  have HW := Lib.hid hown'; clear hown'
  have HBW := Lib.hid hb; clear hb hgrow
  go_wp2
  go_ret
  exact ⟨v', rfl, HW.out, HBW.out⟩
/-- In order: none behind another one is ahead of it. -/
def InOrder (ys : List UInt64) : Prop := ∀ i, (h : i + 1 < ys.length) → ¬ keyN (ys[i + 1]).toNat < keyN (ys[i]'(by omega)).toNat
theorem sort_no (p : Option Addr) (c : Nat) (W : World) : Calls Try.prog 55 #[.slice p 0 c, .func (.func 56) #[] #[]] W fun e w' => e = .returned (.tuple #[]) ∧ w' = W := by
  have h := AnyF.slices_SortFunc_none (P := Try.prog) (ρ := Try.sortF_ren) { Try.sortF with } p c (.func (.func 56) #[] #[]) W
  exact h
theorem sort_yes (g c n : Nat) (d : Array UInt64) (hdn : d.size = n) (w : World) (hH : Go.Sort.Holds Ue w g 0 d) (hg : g < w.heap.size) (h12 : n < 4611686018427387904) {B : Nat} (hB : B ≤ g) (hBw : B ≤ w.heap.size) :
    Calls Try.prog 55 #[.slice (some ⟨g, 0, none⟩) n c, .func (.func 56) #[] #[]] w fun e w' =>
      e = .returned (.tuple #[]) ∧ ∃ ys : List UInt64, ys.length = n ∧ ys.Perm d.toList ∧ InOrder ys ∧ Rd w' (some ⟨g, 0, none⟩) (ys.map Ue) ∧ RowKit.Below B w w' := by
  subst hdn
  have eg : ∀ args w, (callFunc 56 args).run Try.prog w = .ok (.enter 56 args) w := enters_of Try.func56 (by kernel_rfl) rfl
  have hS := Any.slices_SortFunc Try.sortF Ue (fun _ => rfl) cfU swoU 56 #[] g 0 c d w eg (cmpU g 0 d.size w).lays hH hg h12
  refine hS.mono ?_
  rintro e w' ⟨rfl, d', n, os, hp, hs, rfl⟩
  obtain ⟨hsz, _, hperm⟩ := hp
  obtain ⟨hr, hb⟩ := sort_world (n := n) (os := os) hH hsz hg hB hBw
  refine ⟨rfl, d'.toList, by simpa using hsz, ?_, ?_, hr, hb⟩
  · have e1 : d'.extract 0 d.size = d' := by rw [← hsz]; simp
    have e2 : d.extract 0 d.size = d := by simp
    rw [e1, e2] at hperm
    exact hperm
  · intro i hi
    have hi' : i + 1 < d'.size := by simpa using hi
    have := hs i (i + 1) (Nat.zero_le _) (Nat.lt_succ_self i) (by omega)
    rw [ltU, decide_eq_false_iff_not, getElem!_pos d' (i + 1) hi', getElem!_pos d' i (by omega)] at this
    simpa using this
theorem sort_any (A : Option Addr) (c : Nat) (xs : List UInt64) (w : World) (hx : Rd w A (xs.map Ue)) (hl : xs.length ≤ 1000) :
    Calls Try.prog 34 #[.slice A xs.length c] w fun e w' => ∃ (A' : Option Addr) (c' : Nat) (ys : List UInt64), e = .returned (.slice A' xs.length c') ∧ ys.length = xs.length ∧ ys.Perm xs ∧ InOrder ys ∧ Rd w' A' (ys.map Ue) ∧ RowKit.Below w.heap.size w w' := by
  cases A with
  | none =>
    have h0 : xs = [] := by
      cases xs with
      | nil => rfl
      | cons u r => obtain ⟨b, off, e', _⟩ := hx 0 (Ue u) rfl; cases e'
    subst h0
    go_enter Try.func34, Try.ntmps34
    go_wp2_with fail
    refine (clone_nil c w).mono ?_
    rintro e w1 ⟨rfl, rfl⟩
    go_wp2_with fail
    refine (sort_no none 0 w).mono ?_
    rintro e w1 ⟨rfl, rfl⟩
    go_wp2
    go_ret
    exact ⟨none, 0, [], rfl, rfl, List.Perm.refl _, fun i h => absurd h (Nat.not_lt_zero _), Rd.nil _ _, RowKit.Below.refl _ _⟩
  | some ad =>
    have hcl := clone_some ad c (xs.map Ue) w hx (by intro u hu; obtain ⟨x, _, rfl⟩ := List.mem_map.1 hu; rfl) (by simpa using hl)
    rw [List.length_map] at hcl
    obtain ⟨n, hn⟩ : ∃ n, n = xs.length := ⟨_, rfl⟩
    rw [← hn] at hcl hl ⊢
    have HN := Lib.hid hn; clear hn hx
    have HCL := Lib.hid hcl; clear hcl
    go_enter Try.func34, Try.ntmps34
    go_wp2_with fail
    refine HCL.out.mono ?_
    rintro e w1 ⟨v, rfl, hown, hb⟩
    by_cases h0 : n = 0
    · subst h0
      have h00 : xs = [] := List.eq_nil_of_length_eq_zero HN.out.symm
      obtain ⟨A', cap, rfl, _, _, _, _⟩ := own_rd hown
      have HBX := Lib.hid hb; clear hb
      have H00 := Lib.hid h00; clear h00
      clear hown
      go_wp2_with fail
      refine (sort_no A' cap w1).mono ?_
      rintro e w2 ⟨rfl, rfl⟩
      go_wp2
      go_ret
      exact ⟨A', cap, [], rfl, rfl, by rw [H00.out], fun i h => absurd h (Nat.not_lt_zero _), Rd.nil _ _, HBX.out⟩
    · have hv : ∃ g cap, v = .slice (some ⟨g, 0, none⟩) n cap := by
        rcases hown.2 with ⟨_, h⟩ | ⟨g, cap, cur, h, _⟩
        · exact absurd h h0
        · exact ⟨g, cap, h⟩
      obtain ⟨g, cap, rfl⟩ := hv
      obtain ⟨hH, hg, hBg⟩ := holds_own (d := xs.toArray) hown (by simpa using HN.out.symm)
      have hS := sort_yes g cap n xs.toArray (by simpa using HN.out.symm) w1 hH hg (by omega) hBg hb.size
      have HS := Lib.hid hS; clear hS
      have HBX := Lib.hid hb; clear hb
      clear hown hH hg hBg h0
      go_wp2_with fail
      refine HS.out.mono ?_
      rintro e w2 ⟨rfl, ys, hyl, hyp, hyo, hyr, hyb⟩
      have HY := Lib.hid (And.intro hyl (And.intro hyp (And.intro hyo (And.intro hyr (HBX.out.trans hyb)))))
      clear hyl hyp hyo hyr hyb
      go_wp2
      go_ret
      exact ⟨_, _, ys, rfl, HY.out.1, HY.out.2.1, HY.out.2.2.1, HY.out.2.2.2.1, HY.out.2.2.2.2⟩
end
end Go.Proofs.Ytlaodfkcfclpmaa
