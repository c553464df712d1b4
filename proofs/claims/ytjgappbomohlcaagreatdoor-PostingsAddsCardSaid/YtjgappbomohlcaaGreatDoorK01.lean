/-
  Lists of labels in memory: a label takes two cells.
  labels.Get: a name's value.
  A text's bytes by their places.
  From a contract 'it returns true, and nothing that was there has moved' to a row; the arguments opened.
  Valued, and the library's tables by which it tells valid UTF-8.
  Numbers in few bytes, read, plainly: what the scan of a row of bytes comes to.
  Numbers in few bytes, written. Plain laws of numbers in few bytes: there and back, one form, cut off nowhere, lesser numbers do not have more bytes. What the scan of a number in few bytes comes to: the laws that speak of no program (as in RuvB, for seats without the plain answers' Uvarint).
  Which of two texts is ahead, at the operations.
  What the laws of labels share, without the law's own words: the two tables from what the row lays, a world for the witnesses, labels that came in.
  The runes of a text, plainly: what a range over a text gives, the places of a text, and that runes come back of their bytes. The values of a pattern, plainly: which there are, and that it matches just these; a text as it is in a pattern.
  Matchers, plainly: what is wrong with one and with several, what passes, their text and what a text is. Nothing here speaks of the program.
  Lists of matchers in memory: a matcher takes three cells; rows of the call's own, cuts, and appends.
  A row of numbers of 64 bits in memory, that is sorted in place: what is read, two places exchanged, one number less than another one. Numbers sorted by insertion.
  Some of the numbers exchanged with others.
  A row of bytes as a text.
  Labels held against one another: whether they are the same, by the plain answers.
  Rows of elements of some cells each, whatever they are.
  Labels within something that came in.
  Series that come and go, as they came in: whether one goes, its number, its labels.
  Lists of texts in memory.
-/
import Derived.ProofKit
import Derived.OpenShut
import Derived.Deep.Grids
import Derived.Deep.SlicePairs
import Derived.Deep.DeepHandedRow
import Derived.Lib.LaidTab
import Derived.Lib.LaidIn
import Derived.Lib.LaidU8T
import Derived.Lib.MapLaws
import Derived.ArgAppend
import Derived.Deep.LoopGhost
import Derived.Sort.LotA
import Derived.Deep.DeepCutAuto
import Derived.Laws.BytesArg
import Derived.Laws.StructEq
import Derived.Shelf.SlicesE.Kit
import Derived.Lib.SmallJoins
import Derived.Test.YtjgappbomohlcaaGreatDoorKGen
import Derived.Test.YtjgappbomohlcaaGreatDoorKLb
import Derived.Test.YtjgappbomohlcaaGreatDoorRows
import Derived.Test.YtjgappbomohlcaaGreatDoorShelf3
import Derived.Test.YtjgappbomohlcaaGreatDoorCards
import Derived.Test.YtjgappbomohlcaaGreatDoorTie
import Derived.Test.YtjgappbomohlcaaGreatDoorKRe
import Derived.Test.YtjgappbomohlcaaGreatDoorShelfX
namespace Go.Proofs.YtjgappbomohlcaaGreatDoor
section
set_option linter.unusedVariables false
set_option linter.unusedSimpArgs false
open Go.RowKit

/-- The cells of labels. -/
def lcells : List Lb → List Value
  | [] => []
  | x :: r => .string x.1 :: .string x.2 :: lcells r
def aggL (x : Lb) : Value := .agg #[.string x.1, .string x.2]
theorem lcells_len : ∀ l, (lcells l).length = l.length * 2
  | [] => rfl
  | x :: r => by simp only [lcells, List.length_cons, lcells_len r]; omega
theorem lcells_append : ∀ l m, lcells (l ++ m) = lcells l ++ lcells m
  | [], m => rfl
  | x :: r, m => by simp only [List.cons_append, lcells, lcells_append r m]
theorem lcells_fst : ∀ (l : List Lb) (k : Nat) (h : k < l.length), (lcells l)[k * 2]? = some (.string l[k].1)
  | [], k, h => absurd h (Nat.not_lt_zero _)
  | x :: r, 0, h => by simp [lcells]
  | x :: r, k + 1, h => by rw [show (k + 1) * 2 = k * 2 + 1 + 1 by omega]; simp only [lcells, List.getElem?_cons_succ, List.getElem_cons_succ]; exact lcells_fst r k (by simpa using h)
theorem lcells_snd : ∀ (l : List Lb) (k : Nat) (h : k < l.length), (lcells l)[k * 2 + 1]? = some (.string l[k].2)
  | [], k, h => absurd h (Nat.not_lt_zero _)
  | x :: r, 0, h => by simp [lcells]
  | x :: r, k + 1, h => by rw [show (k + 1) * 2 + 1 = (k * 2 + 1) + 1 + 1 by omega]; simp only [lcells, List.getElem?_cons_succ, List.getElem_cons_succ]; exact lcells_snd r k (by simpa using h)
theorem lcells_one' : ∀ (l : List Lb), ∀ u ∈ lcells l, u.oneCell' = true
  | [], u, h => by cases h
  | x :: r, u, h => by
    rcases List.mem_cons.1 h with rfl | h
    · rfl
    rcases List.mem_cons.1 h with rfl | h
    · rfl
    · exact lcells_one' r u h
/-- A label at its place. -/
theorem lb_at {w : World} {A : Option Addr} {l : List Lb} (h : Rd w A (lcells l)) {k : Nat} (hk : k < l.length) :
    ∃ b off, A = some ⟨b, off, none⟩ ∧ w.cell? ⟨b, off + k * 2, none⟩ = some (.string l[k].1) ∧ w.cell? ⟨b, off + k * 2 + 1, none⟩ = some (.string l[k].2) := by
  obtain ⟨b, off, e, c0⟩ := h (k * 2) _ (lcells_fst l k hk)
  obtain ⟨b', off', e', c1⟩ := h (k * 2 + 1) _ (lcells_snd l k hk)
  rw [e] at e'
  injection e' with e'
  injection e' with e1 e2 _
  subst e1; subst e2
  exact ⟨b, off, e, c0, c1⟩
theorem lb_nil {w : World} {l : List Lb} (h : Rd w none (lcells l)) : l = [] := by
  cases l with
  | nil => rfl
  | cons x r => obtain ⟨b, off, e, _⟩ := lb_at h (k := 0) (by simp); cases e
theorem infoLb : (Tryz.prog.info? 80).map (fun i => (i.zero, i.size, i.bytes)) = some (some (.agg #[.string ⟨#[]⟩, .string ⟨#[]⟩]), 2, 32) := by kernel_rfl
end
section
set_option linter.unusedVariables false
set_option linter.unusedSimpArgs false
open Go.RowKit
theorem text_ne {a b : ByteArray} (h : ¬ a = b) : (a.toList == b.toList) = false := by
  rw [beq_eq_false_iff_ne, toList_bl, toList_bl]
  exact fun e => h (bl_inj e)
theorem getP_at {l : List Lb} {k : Nat} (n : ByteArray) (h : k < l.length) : getP (l.drop k) n = if l[k].1 = n then l[k].2 else getP (l.drop (k + 1)) n := by
  rw [List.drop_eq_getElem_cons h]
  unfold getP
  rw [List.find?_cons]
  by_cases e : l[k].1 = n
  · simp [e]
  · simp [e]
section
set_option maxHeartbeats 1600000
set_option maxRecDepth 100000
theorem get_any (A : Option Addr) (c : Nat) (l : List Lb) (n : ByteArray) (w : World) (hx : Rd w A (lcells l)) (hl : l.length ≤ 1000000) :
    Calls Tryz.prog 112 #[.slice A l.length c, .string n] w fun e w' => e = .returned (.string (getP l n)) ∧ Below w.heap.size w w' := by
  obtain ⟨R, hR⟩ : ∃ R, R = getP l n := ⟨_, rfl⟩
  rw [← hR]
  have hst : R = getP (l.drop 0) n := hR
  have HST := Lib.hid hst; clear hst hR
  go_enter Tryz.func112, Tryz.ntmps112
  go_wp2
  go_loopw [9] (fun s9 wr => ∃ k : Nat, s9 = .int .i64 k ∧ k ≤ l.length ∧ Aside (Below w.heap.size w wr) ∧ Aside (R = getP (l.drop k) n)) (fun s9 _ => l.length - (intOf s9).toNat)
  case atStart => exact ⟨0, rfl, by omega, Below.refl _ _, HST.out⟩
  case round =>
    obtain ⟨k, rfl, hk, BW, E⟩ := hrel
    have k0 : (0 : Int) ≤ (k : Int) := by omega
    by_cases hlt : k < l.length
    · have k1 : (k : Int) < (l.length : Int) := by omega
      obtain ⟨b, off, rfl, c0, c1⟩ := lb_at (hx.below BW.out) hlt
      have hE := E.out.trans (getP_at n hlt)
      clear E hx
      generalize l[k] = x at c0 c1 hE
      obtain ⟨x1, x2⟩ := x
      simp only at c0 c1 hE
      have HBW := Lib.hid (show Below w.heap.size w (wr.alloc (.cells #[.string x1, .string x2] 80)) from BW.out.alloc BW.out.size _)
      by_cases he : x1 = n
      · subst he
        rw [if_pos rfl] at hE
        subst hE
        go_wp2
        go_ret
        exact ⟨rfl, HBW.out⟩
      · rw [if_neg he] at hE
        have HE := Lib.hid hE; clear hE
        have q : (x1.toList == n.toList) = false := text_ne he
        have HQ := Lib.hid he; clear he
        go_wp2
        go_roundw
        case rel => exact ⟨k + 1, by go_num, by omega, (show Aside _ from HBW.out), (show Aside _ from HE.out)⟩
        case measure => simp [intOf]; omega
    · obtain rfl : k = l.length := by omega
      have hE := E.out
      rw [List.drop_length] at hE
      have hE : R = ⟨#[]⟩ := hE
      subst hE
      clear E
      go_wp2
      go_ret
      exact ⟨rfl, BW.out⟩
end
end
section
set_option linter.unusedVariables false
set_option linter.unusedSimpArgs false
open Go.RowKit
theorem size_zero {s : ByteArray} (h : s.size = 0) : s = ⟨#[]⟩ := by
  cases s with | mk a => simp [ByteArray.size] at h; subst h; rfl
/-- A text that is not empty, as the walk asks it. -/
theorem ne_empty {s : ByteArray} (h : ¬ s.size = 0) : ¬ s.toList = [] ∧ s.toList.isEmpty = false := by
  have : ¬ s.toList = [] := by
    rw [toList_bl]; intro e; apply h; rw [← bl_len, e]; rfl
  exact ⟨this, by cases hl : s.toList with | nil => exact absurd hl this | cons _ _ => rfl⟩
theorem get_bl (s : ByteArray) {i : Nat} (h : i < s.size) : s[i]'h = (bl s)[i]'(by rw [bl_len]; exact h) := by
  cases s; rfl
/-- A text's byte, behind a word of its own. -/
def byN (s : ByteArray) (k : Nat) : Nat := ((bl s).getD k 0).toNat
theorem byN_lt (s : ByteArray) (k : Nat) : byN s k < 256 := UInt8.toNat_lt _
theorem run_index_s (w : World) (s : ByteArray) (k : IntKind) (d : Nat) (hd : d < s.size) :
    (Instr.index 9 (.string s) (.int k (d : Nat))).run Tryz.prog w = .ok (.int .u8 (byN s d : Nat)) w := by
  have hs : s[d]? = some ((bl s).getD d 0) := by
    show (if h : d < s.size then some s[d] else none) = _
    rw [dif_pos hd, get_bl s hd]
    simp [List.getD, bl_len, hd]
  unfold byN
  simp [Instr.index, asIntOf, run_underlying Tryz.underlying9, hs]
end
section
set_option linter.unusedVariables false
set_option linter.unusedSimpArgs false
open Go.ChangeShapes Go.WideShapes Go.ChangeAt Go.RowKit

theorem laidOut : laidOutB Tryz.prog = true := by kernel_rfl
theorem ownKn : ownKnob Tryz.prog.godebug = none := by kernel_rfl

/-- All arguments read as they did, below the old heap's size nothing having moved. -/
theorem trodAll_below {H : Type} {enc : TypeId × Value → H} {P : Program} (hl : laidOutB P = true) {W W' : World} (hb : Below W.heap.size W W') :
    ∀ {ts : List TypeId} {vs : List Value} {ds : List (DataW H)} {ps : List MemPlace}, (ts.all fun t => P.readableRec t && decide (t < P.types.size)) = true →
      DataW.TrodAll enc P W 0 (fun _ => true) true ts vs ds ps → (∀ x ∈ ps, x.block < W.heap.size) → DataW.TrodAll enc P W' 0 (fun b => decide (b < W.heap.size)) true ts vs ds ps
  | [], [], [], _, _, h, _ => h
  | t :: ts, v :: vs, d :: ds, ps, hr, ⟨p, q, h1, h2, e⟩, hlt => by
    simp only [List.all_cons, Bool.and_eq_true, decide_eq_true_eq] at hr
    subst e
    exact ⟨p, q, Below.trod hl hr.1.1 hr.1.2 h1 hb (fun x hx => hlt x (List.mem_append_left _ hx)), trodAll_below hl hb hr.2 h2 (fun x hx => hlt x (List.mem_append_right _ hx)), rfl⟩
  | [], [], _ :: _, _, _, h, _ => h.elim
  | [], _ :: _, [], _, _, h, _ => h.elim
  | [], _ :: _, _ :: _, _, _, h, _ => h.elim
  | _ :: _, [], _, _, _, h, _ => h.elim
  | _ :: _, _ :: _, [], _, _, h, _ => h.elim

/-- A law's row: the call returned true, and below the old heap's size nothing has moved. -/
theorem law_end {H : Type} {enc : TypeId × Value → H} {P : Program} {f : Func} {s : ChangeSpec} {W W' : World} {args : Array Value} {ds gs : List (DataW H)} {before : List MemPlace} {t : TypeId}
    (hl : laidOutB P = true) (hpar : (f.params.toList.all fun t => P.readableRec t && decide (t < P.types.size)) = true) (hres : f.resultTypes = #[t]) (ht : P.underlying t = some .bool)
    (hvars : s.vars = []) (hW : DataW.Whole enc P f.params.toList s.vars false W args.toList ds gs before)
    (hfn : (s.fn H (ds ++ gs)).results = [.lit (.bool true)] ∧ (s.fn H (ds ++ gs)).args = ds ∧ (s.fn H (ds ++ gs)).vars = []) (hb : Below W.heap.size W W') :
    s.post enc P f false true false false W args (.bool true) W' := by
  have hlt := hW.lt
  have hW' := hW
  obtain ⟨p, q, hA, hV, rfl, _, _⟩ := hW
  rw [hvars] at hV
  obtain ⟨hg, hq⟩ := trodVars_none hV
  subst hq
  refine ⟨ds, gs, p ++ [], [], p, [], hW', ?_, ?_, ?_, hb.frame _, fun h => by cases h⟩
  · rw [hfn.1, hres]
    exact trodAll_mk1 (shut_bool ht true)
  · rw [hfn.2.1]
    exact trodAll_below hl hb hpar hA (fun x hx => hlt x (List.mem_append_left _ hx))
  · rw [hfn.2.2, hvars]
    exact rfl

section
variable {H : Type} {enc : TypeId × Value → H} {P : Program} {W : World} {r : Reach} {b0 : Nat} {v : Value} {d : DataW H} {ps : List MemPlace}

theorem addr_flat {w : World} {a : Addr} {n : Nat} {u : Value} (h : w.cell? (a.add n) = some u) : (∃ b off, a.add n = ⟨b, off + n, none⟩ ∧ (n = 0 → a = ⟨b, off, none⟩) ∧ b = a.block ∧ off = a.off) := by
  by_cases hn : n = 0
  · subst hn
    have hs : a.spot = none := by simpa [Addr.add] using World.cell?_spot h
    obtain ⟨b, off, spot⟩ := a
    simp at hs
    subst hs
    exact ⟨b, off, by simp [Addr.add], fun _ => rfl, rfl, rfl⟩
  · exact ⟨a.block, a.off, by simp [Addr.add, hn], fun h => absurd h hn, rfl, rfl⟩

/-- A row of integers that came in. -/
theorem open_rd {t e : TypeId} {k : IntKind} (ht : P.underlying t = some (.slice e)) (he : P.underlying e = some (.int k)) (hc : P.cellsOf e = 1)
    (hval : Value.okWide P W r b0 t v) (h : DataW.Trod enc P W 0 (fun _ => true) true t v d ps) :
    ∃ (A : Option Addr) (cap : Nat) (zs : List Int), v = .slice A zs.length cap ∧ (zs.length ≤ cap ∧ cap ≤ maxLen) ∧ Rd W A (zs.map (Value.int k)) ∧ (∀ n ∈ zs, (Lit.int k n).wf = true) := by
  obtain ⟨a0, len, cap, rfl⟩ := okWide_slice ht hval
  obtain ⟨fuel, hf⟩ := h
  rcases open_ints ht he hc hf with ⟨hcs, _⟩ | ⟨a, len', cap', zs, hcs, _, hl, hm, hz, _, hcell, hwz⟩
  · simp [Value.cells] at hcs
    obtain ⟨rfl, rfl, rfl⟩ := hcs
    exact ⟨none, 0, [], rfl, ⟨by decide, by decide⟩, Rd.nil _ _, by simp⟩
  · simp [Value.cells] at hcs
    obtain ⟨rfl, rfl, rfl⟩ := hcs
    simp only [if_true] at hz
    have hlen : (zs.take len).length = len := by simp; omega
    refine ⟨some a, cap, zs.take len, by rw [hlen], ⟨by omega, hm⟩, fun j u hu => ?_, fun n hn => hwz n (List.mem_of_mem_take hn)⟩
    have hj : j < len := by
      have := (List.getElem?_eq_some_iff.1 hu).1
      rw [List.length_map, hlen] at this
      exact this
    have h0 := hcell 0 (by omega)
    obtain ⟨b, off, _, h00, _, _⟩ := addr_flat h0
    have := h00 rfl
    subst this
    have hcj := hcell j (by omega)
    refine ⟨b, off, rfl, ?_⟩
    rw [add_plain] at hcj
    rw [hcj, ← hu]
    simp [List.getD, hj, show j < zs.length by omega]
end
end
section
set_option linter.unusedVariables false
set_option linter.unusedSimpArgs false
open Go.RowKit
/-- The library's two tables by which it tells valid UTF-8. -/
def Tabs (w : World) : Prop := Lib.Utf8Tabs 0 1 w
theorem Tabs.below {w w' : World} (h : Tabs w) (hb : RowKit.Below w.heap.size w w') : Tabs w' := Utf8Tabs_below h hb
section
set_option maxHeartbeats 1600000
set_option maxRecDepth 100000
theorem valued_any (s : ByteArray) (w : World) (hT : Tabs w) (hl : s.size ≤ 1000000) : Calls Tryz.prog 109 #[.string s] w fun e w' => e = .returned (.bool (valuedP (bl s))) ∧ Below w.heap.size w w' := by
  have hc := Any.utf8_ValidString Tryz.validL s w (by omega) hT
  have hc2 : Calls Tryz.prog 133 #[.string s] w fun e w' => e = .returned (.bool (Lib.validD (bl s))) ∧ Below w.heap.size w w' := hc
  unfold valuedP
  rw [bl_len]
  generalize Lib.validD (bl s) = V at hc2 ⊢
  have HC := Lib.hid hc2; clear hc hc2 hT
  by_cases h : s.size ≤ 128
  · have hz : (s.size : Int) ≤ 128 := by omega
    rw [decide_eq_true h, Bool.true_and]
    go_enter Tryz.func109, Tryz.ntmps109
    go_wp2_with (first | (go_at_call 133; refine HC.out.mono ?_; rintro e w1 ⟨rfl, hb⟩) | fail)
    go_ret
    exact ⟨rfl, hb⟩
  · have hz : ¬ (s.size : Int) ≤ 128 := by omega
    rw [decide_eq_false h, Bool.false_and]
    go_enter Tryz.func109, Tryz.ntmps109
    go_wp2
    go_ret
    exact ⟨rfl, Below.refl _ _⟩
end
end
section
set_option linter.unusedVariables false
set_option linter.unusedSimpArgs false
open Go.RowKit

/-- The scan from the k-th byte on, n being what the bytes ahead came to: the number, how many bytes, the error's number. -/
def uvS : Nat → Nat → List UInt8 → Nat × Nat × Nat
  | _, _, [] => (0, 0, 6)
  | k, n, b :: r =>
    if k = 9 ∧ 1 < b.toNat then (0, 0, 9)
    else if b.toNat < 128 then (if 0 < k ∧ b.toNat = 0 then (0, 0, 8) else (n + b.toNat % 128 * 2 ^ (7 * k), k + 1, 0))
    else uvS (k + 1) (n + b.toNat % 128 * 2 ^ (7 * k)) r

theorem pow7 (k : Nat) : 2 ^ (7 * (k + 1)) = 128 * 2 ^ (7 * k) := by rw [Nat.mul_add, Nat.pow_add]; omega
def uvT (r : Nat × Nat × Nat) : Value := .tuple #[.int .u64 (r.1 : Int), .int .i64 (r.2.1 : Int), .int .i64 (r.2.2 : Int)]

section
variable {k n : Nat} {b : UInt8} {r : List UInt8}
end
end
section
set_option linter.unusedVariables false
set_option linter.unusedSimpArgs false
section
set_option linter.unusedVariables false
set_option linter.unusedSimpArgs false
open Go.RowKit

/-- A number in few bytes: seven bits in each, the lowest ones first. -/
def pu (n : Nat) : List UInt8 := if h : n < 128 then [UInt8.ofNat n] else UInt8.ofNat (n % 128 + 128) :: pu (n / 128)
  termination_by n
  decreasing_by omega

theorem pu_last {n : Nat} (h : n < 128) : pu n = [UInt8.ofNat n] := by rw [pu, dif_pos h]
theorem pu_more {n : Nat} (h : 128 ≤ n) : pu n = UInt8.ofNat (n % 128 + 128) :: pu (n / 128) := by
  conv => lhs; rw [pu]
  rw [dif_neg (by omega)]
theorem mask64 {n : Nat} (h : n < 18446744073709551616) : bits .and .u64 (n : Int) 127 = (n : Int) % 128 := by
  have e : (127 : Int) = ((127 : Nat) : Int) := rfl
  rw [e, u64_and_nat _ _ h (by omega), show (127 : Nat) = 2 ^ 7 - 1 from rfl, Nat.and_two_pow_sub_one_eq_mod]
  rfl
theorem or128 {n : Nat} : bits .or .u8 ((n : Int) % 128) 128 = (n : Int) % 128 + 128 := by
  have e : (128 : Int) = ((128 : Nat) : Int) := rfl
  have e1 : (n : Int) % 128 = ((n % 128 : Nat) : Int) := rfl
  have h := or_beside (n % 128) 1 7 (by omega)
  rw [e1]
  show bits .or .u8 ((n % 128 : Nat) : Int) ((128 : Nat) : Int) = _
  rw [u8_or_nat _ _ (by omega) (by omega)]
  have h2 : n % 128 ||| 128 = n % 128 + 128 := h
  rw [h2]
  rfl
theorem pu_len (k n : Nat) (h : n < 2 ^ (7 * k)) : (pu n).length ≤ max k 1 := by
  induction k generalizing n with
  | zero => simp at h; subst h; rw [pu_last (by omega)]; simp
  | succ k ih =>
    by_cases hn : n < 128
    · rw [pu_last hn]; simp
    · rw [pu_more (by omega)]
      have h2 : n / 128 < 2 ^ (7 * k) := by rw [pow7] at h; omega
      have := ih _ h2
      have : k ≠ 0 := by rintro rfl; simp at h; omega
      simp; omega

section
set_option maxHeartbeats 1600000
set_option maxRecDepth 100000
theorem pu_any (n : Nat) (w : World) (hn : n < 18446744073709551616) :
    Calls Tryz.prog 74 #[.int .u64 n] w fun e w' => ∃ v, e = .returned v ∧ w'.ownsRow w.heap.size 5 1 v (pu n).length ((pu n).map Bv) ∧ Below w.heap.size w w' := by
  obtain ⟨i0, hi, hz0, hz1, hz2⟩ := info_parts infoU8
  have hl10 := pu_len 10 n (by omega)
  go_enter Tryz.func74, Tryz.ntmps74
  go_wp2
  go_step3
  go_wp2
  go_step3
  go_wp2
  go_loopw [0, 3] (fun i v wr => ∃ (m : Nat) (acc : List UInt8), m < 18446744073709551616 ∧ i = .int .u64 m ∧ pu n = acc ++ pu m ∧ acc.length + (pu m).length ≤ 10 ∧ wr.ownsRow w.heap.size 5 1 v acc.length (acc.map Bv) ∧ Below w.heap.size w wr) (fun i _ _ => (intOf i).toNat)
  case atStart => exact ⟨n, [], hn, rfl, rfl, by simpa using hl10, World.ownsRow_nil _ _ _ _, Below.refl _ _⟩
  case round =>
    obtain ⟨m, acc, hm, rfl, hpu, hlen, hown, hb⟩ := hrel
    have HS := Lib.hid hb.size
    have hlo := fun (k : Nat) h => (hown.lt k h).1
    have hmk := mask64 hm
    by_cases h : m < 128
    · rw [pu_last h] at hpu hlen
      simp at hlen
      have HP := Lib.hid hpu; clear hpu
      have hz : ((m : Int) / 128 == 0) = true := by rw [beq_iff_eq]; omega
      go_wp2_with (first | (at_builtin; go_must (refine wpList_append_own _ rfl _ _ 85 rfl w.heap.size 5 i0 (.int .u8 0) 1 1 Tryz.underlying85 hi hz0 hz1 hz2 rfl (by decide) _ acc.length (acc.map Bv) rfl (hown.alloc _) ⟨wr.heap.size, 0, none⟩ 1 1 [.int .u8 ((m : Int) % 128)] rfl rfl (World.news_of_block (heap_alloc_new _ _)) (by simp [Value.oneCell']) (by unfold maxLen; omega) (by omega) (by have := HS.out; simp; omega) ?_; intro v' w1 hown' hgrow _)) | fail)
      go_wp2
      rw [Exit.noGoto_ret]
      go_ret
      refine ⟨_, rfl, ?_, (hb.alloc HS.out _).grown hgrow (by have := HS.out; simp; omega) hlo⟩
      rw [HP.out]
      exact snoc_own hown' (by omega) (by omega)
    · have hd : (pu m).length = (pu (m / 128)).length + 1 := by rw [pu_more (n := m) (by omega)]; rfl
      rw [pu_more (n := m) (by omega)] at hpu
      have HP := Lib.hid hpu; clear hpu
      have HD := Lib.hid hd; clear hd
      have hz : ((m : Int) / 128 == 0) = false := by rw [beq_eq_false_iff_ne]; omega
      have hor := or128 (n := m)
      go_wp2_with (first | (at_builtin; go_must (refine wpList_append_own _ rfl _ _ 85 rfl w.heap.size 5 i0 (.int .u8 0) 1 1 Tryz.underlying85 hi hz0 hz1 hz2 rfl (by decide) _ acc.length (acc.map Bv) rfl (hown.alloc _) ⟨wr.heap.size, 0, none⟩ 1 1 [.int .u8 ((m : Int) % 128 + 128)] rfl rfl (World.news_of_block (heap_alloc_new _ _)) (by simp [Value.oneCell']) (by unfold maxLen; omega) (by omega) (by have := HS.out; simp; omega) ?_; intro v' w1 hown' hgrow _)) | fail)
      go_wp2
      go_roundw
      case rel => exact ⟨m / 128, acc ++ [UInt8.ofNat (m % 128 + 128)], by omega, by go_num, by rw [HP.out]; simp, by have := HD.out; simp; omega, snoc_own hown' (by omega) (by omega), (hb.alloc HS.out _).grown hgrow (by have := HS.out; simp; omega) hlo⟩
      case measure => simp [intOf]; omega
end
end
section
set_option linter.unusedVariables false
set_option linter.unusedSimpArgs false

theorem ofNat_toNat' {n : Nat} (h : n < 256) : (UInt8.ofNat n).toNat = n := by simp; omega

end
section
set_option linter.unusedVariables false
set_option linter.unusedSimpArgs false
open Go.RowKit
end
end
section
set_option linter.unusedVariables false
set_option linter.unusedSimpArgs false
theorem less_z : ∀ a b : Bs, Op.bytesLess a b = decide (a < b)
  | [], [] => by simp [Op.bytesLess]
  | _ :: _, [] => by simp [Op.bytesLess]
  | [], _ :: _ => by simp [Op.bytesLess]
  | x :: a, y :: b => by
    unfold Op.bytesLess
    rw [less_z a b]
    simp only [List.cons_lt_cons_iff]
    by_cases h1 : x < y <;> by_cases h2 : x = y <;> simp_all
theorem less_t (a b : ByteArray) : Op.bytesLess a.toList b.toList = decide (bl a < bl b) := by rw [less_z, toList_bl, toList_bl]
theorem gtr_text {P : Program} (t : TypeId) (a b : ByteArray) (w : World) : (binOp .gtr t (.string a) (.string b)).run P w = .ok (.bool (!(Op.bytesLess a.toList b.toList || a.toList == b.toList))) w := by
  unfold binOp Op.stringOp
  rfl
end
section
set_option linter.unusedVariables false
set_option linter.unusedSimpArgs false
open Go.ChangeShapes Go.WideShapes Go.ChangeAt Go.RowKit
theorem data_first : (Rows.laid_unicode_utf8_first : DataW Unit) = Lib.firstData := by kernel_rfl
theorem data_accept : (Rows.laid_unicode_utf8_acceptRanges : DataW Unit) = Lib.acceptData := by kernel_rfl
theorem tabs {W : World} (h : laidMetH Tryz.prog [("unicode/utf8.acceptRanges", Rows.laid_unicode_utf8_acceptRanges), ("unicode/utf8.first", Rows.laid_unicode_utf8_first)] W) : Tabs W :=
  utf8Tabs_of_readsT (U8Types.of196 Tryz.validL) ⟨by kernel_rfl, by kernel_rfl, by kernel_rfl, by kernel_rfl, by kernel_rfl, by kernel_rfl, by kernel_rfl⟩
    (by rw [← data_first]; exact Lib.laidMet.reads h (.tail _ (.head _))) (by rw [← data_accept]; exact Lib.laidMet.reads h (.head _))
/-- A world for the witness: the settled one, the tables holding what their initialisers lay. -/
noncomputable def laidWorld (os : Os) : World :=
  let w0 := World.holding Tryz.prog os ⟨#[], #[], []⟩
  let put (h : Array Obj) (g : Nat) (cs : Array Value) : Array Obj := h.modify g fun
    | .cells _ t frozen => .cells cs t frozen
    | o => o
  let h1 := put w0.heap 0 (Lib.firstTab.map fun z => Value.int .u8 z).toArray
  let h2 := put h1 1 ((List.range 16).flatMap fun i => [Value.int .u8 (Lib.accLo i), Value.int .u8 (Lib.accHi i)]).toArray
  { w0 with heap := h2 }
theorem laid_met (os : Os) (args : Array Value) : laidMet Tryz.prog [("unicode/utf8.acceptRanges", Rows.laid_unicode_utf8_acceptRanges), ("unicode/utf8.first", Rows.laid_unicode_utf8_first)] ((laidWorld os).forCall (fun _ _ => 0) ⟨#[], args, []⟩).memory :=
  (LaidIn.of_run (l := [("unicode/utf8.acceptRanges", Rows.laid_unicode_utf8_acceptRanges), ("unicode/utf8.first", Rows.laid_unicode_utf8_first)]) [0, 1] 8 (by kernel_rfl) (by kernel_rfl) (by kernel_rfl) (by kernel_rfl)).met
theorem rd_lb {w : World} {b off : Nat} {l : List Lb} (h : ∀ k (hk : k < l.length), w.cell? ⟨b, off + k * 2, none⟩ = some (.string l[k].1) ∧ w.cell? ⟨b, off + k * 2 + 1, none⟩ = some (.string l[k].2)) : Rd w (some ⟨b, off, none⟩) (lcells l) := by
  intro j v hv
  refine ⟨b, off, rfl, ?_⟩
  have hj : j < l.length * 2 := by rw [← lcells_len]; exact (List.getElem?_eq_some_iff.1 hv).1
  obtain ⟨h0, h1⟩ := h (j / 2) (by omega)
  rcases Nat.mod_two_eq_zero_or_one j with e | e
  · have := lcells_fst l (j / 2) (by omega)
    rw [show j / 2 * 2 = j by omega] at this h0
    rw [this] at hv
    rw [h0, ← hv]
  · have := lcells_snd l (j / 2) (by omega)
    rw [show j / 2 * 2 + 1 = j by omega] at this
    rw [show off + j / 2 * 2 + 1 = off + j by omega] at h1
    rw [this] at hv
    rw [h1, ← hv]
set_option maxRecDepth 100000 in
theorem open_labels {H : Type} {enc : TypeId × Value → H} {W : World} {r : Reach} {b0 : Nat} {v : Value} {d : DataW H} {ps : List MemPlace}
    (hval : Value.okWide Tryz.prog W r b0 25 v) (h : DataW.Trod enc Tryz.prog W 0 (fun _ => true) true 25 v d ps) :
    ∃ (A : Option Addr) (cap : Nat) (l : List Lb), v = .slice A l.length cap ∧ (l.length ≤ cap ∧ cap ≤ maxLen) ∧ Rd W A (lcells l) ∧ ∀ x ∈ l, x.1.size ≤ maxLen ∧ x.2.size ≤ maxLen := by
  obtain ⟨a0, len, cap, rfl⟩ := okWide_slice Tryz.underlying25 hval
  obtain ⟨fuel, hf⟩ := h
  rcases Go.Deep.open_slice_pairs Tryz.underlying25 Tryz.underlying80 (by kernel_rfl) rfl rfl (by kernel_rfl) (by kernel_rfl) hf with ⟨hcs, _⟩ | ⟨a, len', cap', m, n, V0, V1, D0, D1, P0, P1, hcs, _, hl, hm, hmm, _, hx⟩
  · simp [Value.cells] at hcs
    obtain ⟨rfl, rfl, rfl⟩ := hcs
    exact ⟨none, 0, [], rfl, ⟨by decide, by decide⟩, Rd.nil _ _, fun o ho => by cases ho⟩
  · simp [Value.cells] at hcs
    obtain ⟨rfl, rfl, rfl⟩ := hcs
    simp only [if_true] at hmm
    rw [hmm] at hx
    clear hmm
    have each : ∀ i, i < cap → ∃ o : Lb, V0 i = .string o.1 ∧ V1 i = .string o.2 ∧ o.1.size ≤ maxLen ∧ o.2.size ≤ maxLen := by
      intro i hi
      obtain ⟨_, _, t0, t1⟩ := hx i hi
      obtain ⟨s0, e0, _, w0⟩ := DataW.trod_string Tryz.underlying9 t0
      obtain ⟨s1, e1, _, w1⟩ := DataW.trod_string Tryz.underlying9 t1
      simp at e0 e1
      exact ⟨(s0, s1), e0, e1, w0, w1⟩
    let f : Nat → Lb := fun i => if h : i < cap then (each i h).choose else (⟨#[]⟩, ⟨#[]⟩)
    have hfs : ∀ i, i < cap → V0 i = .string (f i).1 ∧ V1 i = .string (f i).2 ∧ (f i).1.size ≤ maxLen ∧ (f i).2.size ≤ maxLen := by
      intro i hi
      have : f i = (each i hi).choose := dif_pos hi
      rw [this]
      exact (each i hi).choose_spec
    by_cases hc0 : len = 0
    · subst hc0
      exact ⟨some a, cap, [], rfl, ⟨by simp, hm⟩, Rd.nil _ _, fun o ho => by cases ho⟩
    · obtain ⟨c00, _, _, _⟩ := hx 0 (by omega)
      rw [Nat.zero_mul] at c00
      obtain ⟨b, off, _, h00, _, _⟩ := addr_flat c00
      have := h00 rfl
      subst this
      refine ⟨some ⟨b, off, none⟩, cap, (List.range len).map f, by simp, ⟨by simpa using hl, hm⟩, rd_lb fun k hk => ?_, fun o ho => ?_⟩
      · have hk' : k < len := by simpa using hk
        obtain ⟨c0, c1, _, _⟩ := hx k (by omega)
        obtain ⟨s0, s1, _⟩ := hfs k (by omega)
        refine ⟨?_, ?_⟩
        · rw [add_plain] at c0
          rw [c0, s0]; simp
        · rw [add_plain, ← Nat.add_assoc] at c1
          rw [c1, s1]; simp
      · obtain ⟨i, hi, rfl⟩ := List.mem_map.1 ho
        exact (hfs i (by have := List.mem_range.1 hi; omega)).2.2
end
section
set_option linter.unusedVariables false
set_option linter.unusedSimpArgs false
section
set_option linter.unusedVariables false
set_option linter.unusedSimpArgs false

abbrev dL (l : Bs) : Nat × Nat := Lib.decodeL l
def okRune (c : Int) : Prop := (0 ≤ c ∧ c < 55296) ∨ (57343 < c ∧ c ≤ 1114111)
def badL (l : Bs) : Bool := decide ((dL l).1 = 65533) && decide ((dL l).2 = 1)
/-- The runes of a text's bytes. -/
def runesF : Nat → Bs → List Int
  | 0, _ => []
  | _ + 1, [] => []
  | n + 1, x :: t => ((dL (x :: t)).1 : Int) :: runesF n ((x :: t).drop (dL (x :: t)).2)
def runesB (l : Bs) : List Int := runesF l.length l
/-- The places of what is left of a text from the byte at on. -/
def placesF : Nat → Nat → Bs → List Pc
  | 0, at', _ => [(at', -1)]
  | _ + 1, at', [] => [(at', -1)]
  | n + 1, at', x :: t => (at', if badL (x :: t) then -2 else ((dL (x :: t)).1 : Int)) :: placesF n (at' + (dL (x :: t)).2) ((x :: t).drop (dL (x :: t)).2)
def placesB (l : Bs) : List Pc := placesF l.length 0 l

theorem dL_pos (l : Bs) : 1 ≤ (dL l).2 := Lib.decodeL_width l
theorem dL_le {l : Bs} (h : l ≠ []) : (dL l).2 ≤ l.length := Lib.decodeL_le l h
theorem runesF_fuel : ∀ (n : Nat) (l : Bs), l.length ≤ n → runesF n l = runesB l := by
  have key : ∀ (m : Nat) (l : Bs), l.length ≤ m → ∀ n, l.length ≤ n → runesF n l = runesF m l := by
    intro m
    induction m with
    | zero => intro l h n hn; have : l = [] := List.eq_nil_of_length_eq_zero (by omega); subst this; cases n <;> rfl
    | succ m ih =>
      intro l h n hn
      cases l with
      | nil => cases n <;> rfl
      | cons x t =>
        cases n with
        | zero => simp at hn
        | succ n =>
          simp only [runesF]
          have hp := dL_pos (x :: t)
          have hd : ((x :: t).drop (dL (x :: t)).2).length = (x :: t).length - (dL (x :: t)).2 := List.length_drop
          rw [ih _ (by omega) n (by omega)]
  exact fun n l h => key l.length l (Nat.le_refl _) n h
theorem runesB_step {l : Bs} (h : l ≠ []) : runesB l = ((dL l).1 : Int) :: runesB (l.drop (dL l).2) := by
  cases l with
  | nil => exact absurd rfl h
  | cons x t =>
    rw [show runesB (x :: t) = runesF (t.length + 1) (x :: t) from rfl, runesF, runesF_fuel]
    have hp := dL_pos (x :: t)
    rw [List.length_drop, List.length_cons]; omega
theorem runesB_nil : runesB [] = [] := rfl
theorem placesF_fuel (l : Bs) : ∀ (n a : Nat), l.length ≤ n → placesF n a l = placesF l.length a l := by
  have key : ∀ (m : Nat) (l : Bs), l.length ≤ m → ∀ n a, l.length ≤ n → placesF n a l = placesF m a l := by
    intro m
    induction m with
    | zero => intro l h n a hn; have : l = [] := List.eq_nil_of_length_eq_zero (by omega); subst this; cases n <;> rfl
    | succ m ih =>
      intro l h n a hn
      cases l with
      | nil => cases n <;> rfl
      | cons x t =>
        cases n with
        | zero => simp at hn
        | succ n =>
          simp only [placesF]
          have hp := dL_pos (x :: t)
          have hd : ((x :: t).drop (dL (x :: t)).2).length = (x :: t).length - (dL (x :: t)).2 := List.length_drop
          rw [ih _ (by omega) n _ (by omega)]
  exact fun n a h => key l.length l (Nat.le_refl _) n a h
def placesAt (a : Nat) (l : Bs) : List Pc := placesF l.length a l
theorem placesAt_nil (a : Nat) : placesAt a [] = [(a, -1)] := rfl
theorem placesAt_step (a : Nat) {l : Bs} (h : l ≠ []) : placesAt a l = (a, if badL l then -2 else ((dL l).1 : Int)) :: placesAt (a + (dL l).2) (l.drop (dL l).2) := by
  cases l with
  | nil => exact absurd rfl h
  | cons x t =>
    rw [show placesAt a (x :: t) = placesF (t.length + 1) a (x :: t) from rfl, placesF]
    unfold placesAt
    rw [placesF_fuel _ t.length]
    have hp := dL_pos (x :: t)
    rw [List.length_drop, List.length_cons]; omega
theorem len_ind {P : Bs → Prop} (h0 : P []) (h1 : ∀ l, l ≠ [] → P (l.drop (dL l).2) → P l) (l : Bs) : P l := by
  have key : ∀ (n : Nat) (l : Bs), l.length ≤ n → P l := by
    intro n
    induction n with
    | zero => intro l h; have : l = [] := List.eq_nil_of_length_eq_zero (by omega); subst this; exact h0
    | succ n ih =>
      intro l h
      by_cases hl : l = []
      · subst hl; exact h0
      · have hp := dL_pos l
        exact h1 l hl (ih _ (by rw [List.length_drop]; have : 0 < l.length := List.length_pos_iff.mpr hl; omega))
  exact key l.length l (Nat.le_refl _)
theorem places_ok (l : Bs) : ∀ a, OkL (placesAt a l) := by
  refine len_ind (P := fun l => ∀ a, OkL (placesAt a l)) (fun a => rfl) (fun l h ih a => ?_) l
  rw [placesAt_step a h]
  simp only [OkL]
  rw [if_neg]
  · exact ih _
  · split <;> omega
theorem places_len (l : Bs) : ∀ a, (placesAt a l).length ≤ l.length + 1 := by
  refine len_ind (P := fun l => ∀ a, (placesAt a l).length ≤ l.length + 1) (fun a => by simp [placesAt_nil]) (fun l h ih a => ?_) l
  rw [placesAt_step a h, List.length_cons]
  have := ih (a + (dL l).2)
  rw [List.length_drop] at this
  have := dL_pos l; have := dL_le h
  omega
/-- What is laid at a place is small. -/
def SmallL (l : List Pc) : Prop := ∀ p ∈ l, p.1 ≤ 1000000 ∧ -2 ≤ p.2 ∧ p.2 ≤ 1114111
theorem places_small (l : Bs) : ∀ a, a + l.length ≤ 1000000 → SmallL (placesAt a l) := by
  refine len_ind (P := fun l => ∀ a, a + l.length ≤ 1000000 → SmallL (placesAt a l)) (fun a h p hp => ?_) (fun l h ih a hs p hp => ?_) l
  · rw [placesAt_nil, List.mem_singleton] at hp; subst hp; simp at h ⊢; omega
  · rw [placesAt_step a h, List.mem_cons] at hp
    rcases hp with rfl | hp
    · have := Lib.decodeL_rune l
      simp only
      refine ⟨by omega, ?_⟩
      show -2 ≤ (if badL l then -2 else ((dL l).1 : Int)) ∧ (if badL l then -2 else ((dL l).1 : Int)) ≤ 1114111
      split
      · omega
      · have : (dL l).1 ≤ 1114111 := this
        omega
    · refine ih _ ?_ p hp
      rw [List.length_drop]
      have := dL_le h
      omega
def enc (c : Int) : Bs := Lib.encodeRune c
def encs (l : List Int) : Bs := l.flatMap enc
set_option maxRecDepth 100000 in
/-- A rune comes back of its bytes. -/
theorem dec_enc {c : Int} (h : okRune c) (t : Bs) : dL (enc c ++ t) = (c.toNat, (enc c).length) := by
  unfold okRune at h
  have tb : ∀ x : Int, 0 ≤ x → x < 256 → x.toNat.toUInt8.toNat = x.toNat := fun x h0 h1 => by
    show (UInt8.ofNat x.toNat).toNat = x.toNat
    rw [UInt8.toNat_ofNat']; omega
  show Lib.decodeL (Lib.encodeRune c ++ t) = (c.toNat, (Lib.encodeRune c).length)
  rw [Lib.decodeL_N]
  unfold Lib.encodeRune
  by_cases h1 : c ≤ 127
  · rw [Lib.encodeRuneZ_one (by omega) h1]
    simp only [List.map_cons, List.map_nil, List.cons_append, List.nil_append, List.getD_cons_zero, List.length_cons, List.length_nil]
    rw [tb c (by omega) (by omega)]
    generalize (List.getD _ 1 0 : UInt8).toNat = b1
    generalize (List.getD _ 2 0 : UInt8).toNat = b2
    generalize (List.getD _ 3 0 : UInt8).toNat = b3
    unfold Lib.decodeN
    rw [if_pos (by omega)]
  · by_cases h2 : c ≤ 2047
    · rw [Lib.encodeRuneZ_two (by omega) h2]
      simp only [List.map_cons, List.map_nil, List.cons_append, List.nil_append, List.getD_cons_zero, List.getD_cons_succ, List.length_cons, List.length_nil]
      rw [tb (192 + c / 64) (by omega) (by omega), tb (128 + c % 64) (by omega) (by omega)]
      generalize (List.getD _ 0 0 : UInt8).toNat = b2
      generalize (List.getD _ 1 0 : UInt8).toNat = b3
      unfold Lib.decodeN
      rw [if_neg (by omega), if_pos (by omega), if_pos (by omega)]
      exact Prod.ext (by simp only; omega) rfl
    · by_cases h3 : c ≤ 65535
      · rw [Lib.encodeRuneZ_three (by omega)]
        simp only [List.map_cons, List.map_nil, List.cons_append, List.nil_append, List.getD_cons_zero, List.getD_cons_succ, List.length_cons, List.length_nil]
        rw [tb (224 + c / 4096) (by omega) (by omega), tb (128 + c / 64 % 64) (by omega) (by omega), tb (128 + c % 64) (by omega) (by omega)]
        generalize (List.getD _ 0 0 : UInt8).toNat = b3
        unfold Lib.decodeN
        rw [if_neg (by omega), if_neg (by omega), if_pos (by omega), if_pos (by omega)]
        exact Prod.ext (by simp only; omega) rfl
      · rw [Lib.encodeRuneZ_four (by omega) (by omega)]
        simp only [List.map_cons, List.map_nil, List.cons_append, List.nil_append, List.getD_cons_zero, List.getD_cons_succ, List.length_cons, List.length_nil]
        rw [tb (240 + c / 262144) (by omega) (by omega), tb (128 + c / 4096 % 64) (by omega) (by omega), tb (128 + c / 64 % 64) (by omega) (by omega), tb (128 + c % 64) (by omega) (by omega)]
        unfold Lib.decodeN
        rw [if_neg (by omega), if_neg (by omega), if_neg (by omega), if_pos (by omega), if_pos (by omega)]
        exact Prod.ext (by simp only; omega) rfl
theorem badL_iff (l : Bs) : badL l = true ↔ (dL l).1 = 65533 ∧ (dL l).2 = 1 := by simp [badL]
/-- The pattern of a text's bytes, or its fault. -/
def rxP (b : Bs) : Except Flt Re := if 256 < b.length then .error (0, 3) else wholeP (placesAt 0 b)
end
section
set_option linter.unusedVariables false
set_option linter.unusedSimpArgs false

def onceP (l : List Bs) (v : Bs) : List Bs := if l.contains v then l else l ++ [v]
def valF : List Int → List Bs → Bs → Bool → Option (List Bs)
  | [], list, v, _ => some (onceP list v)
  | c :: t, list, v, esc =>
    if esc then (if (manyP c).isSome then none else valF t list (v ++ enc c) false)
    else if c = 92 then valF t list v true
    else if c = 124 then valF t (onceP list v) [] false
    else if specialP c then none
    else valF t list (v ++ enc c) false
def valP (cs : List Int) : Option (List Bs) := valF cs [] [] false
def quoteC (cs : List Int) : List Int := cs.flatMap fun c => if specialP c then [92, c] else [c]

def catC (acc : Re) (cs : List Int) : Re := cs.foldl (fun a c => .cat a (.set [(c, c)] false)) acc
/-- A rune as a range over a text gives it. -/
def seen (c : Int) : Int := if c = -2 then 65533 else c
/-- The runes of what is left. -/
def rn (l : List Pc) : List Int := (l.map fun p => seen p.2).dropLast
def RuneL (l : List Pc) : Prop := ∀ p ∈ l, p.2 = -1 ∨ p.2 = -2 ∨ okRune p.2
theorem RuneL.now {l : List Pc} (h : RuneL l) (h0 : 0 ≤ nowP l) : okRune (nowP l) := by
  cases l with
  | nil => simp [nowP] at h0
  | cons p t =>
    rcases h p List.mem_cons_self with e | e | e
    · simp only [nowP] at h0; omega
    · simp only [nowP] at h0; omega
    · exact e
theorem RuneL.suf {l l' : List Pc} (h : RuneL l) (hs : l' <:+ l) : RuneL l' := fun p hp => h p (hs.subset hp)

structure Reps (acc : Re) (list : List Bs) (v : Bs) (L : List (List Int)) : Prop where
  mt : ∀ w, Mt acc w ↔ w ∈ L
  has : ∀ b, (b ∈ list ∨ b = v) ↔ ∃ w ∈ L, b = encs w
  ok : ∀ w ∈ L, ∀ c ∈ w, okRune c
/-! ### as it is -/
end
end
section
set_option linter.unusedVariables false
set_option linter.unusedSimpArgs false
/-- A matcher: kind, name, value. -/
abbrev Mt' := Int × ByteArray × ByteArray
def reM (v s : ByteArray) : Bool := match rxP (bl v) with
  | .ok t => matchP (compP t []).1 (compP t []).2 (runesB (bl s))
  | .error _ => false
def passM (m : Mt') (s : ByteArray) : Bool :=
  if m.1 = 1 then decide (s = m.2.2) else if m.1 = 2 then !decide (s = m.2.2) else if m.1 = 3 then reM m.2.2 s else if m.1 = 4 then !reM m.2.2 s else false
def formM (v : ByteArray) : Nat := match rxP (bl v) with
  | .ok _ => 0
  | .error f => f.2
def checkM (m : Mt') : Nat :=
  if m.1 < 1 ∨ 4 < m.1 then 70 else if namedP (bl m.2.1) = false then 50 else if valuedP (bl m.2.2) = false then 51 else if m.1 < 3 then 0 else formM m.2.2
def oneM (m : Mt') (s : ByteArray) : Bool := decide (checkM m = 0) && passM m s
def checksM : List Mt' → Nat
  | [] => 0
  | m :: r => if checkM m ≠ 0 then checkM m else checksM r
def noneB : ByteArray := ⟨#[]⟩
def bareM (l : List Mt') : Bool := l.all fun m => passM m noneB
def rightM (l : List Mt') : Nat := if 16 < l.length then 3 else if checksM l ≠ 0 then checksM l else if bareM l then 71 else 0
def passesM (l : List Mt') (x : List Lb) : Bool := l.all fun m => passM m (getP x m.2.1)
def allM (l : List Mt') (x : List Lb) : Bool := decide (rightM l = 0) && passesM l x
theorem rxM_err {b : Bs} {f : Flt} (h : rxP b = .error f) : f.2 ≠ 0 := by
  unfold rxP at h
  split at h
  · injection h with h; subst h; decide
  · have := wholeP_ec (places_ok b 0) h
    unfold Ec at this; omega
theorem checksM_zero : ∀ {l : List Mt'}, checksM l = 0 ↔ ∀ m ∈ l, checkM m = 0
  | [] => by simp [checksM]
  | m :: r => by
    unfold checksM
    by_cases h : checkM m = 0
    · rw [if_neg (by simp [h]), checksM_zero]; simp [h]
    · rw [if_pos h]; simp [h]
theorem rightM_zero {l : List Mt'} : rightM l = 0 ↔ l.length ≤ 16 ∧ (∀ m ∈ l, checkM m = 0) ∧ ∃ m ∈ l, passM m noneB = false := by
  unfold rightM
  by_cases h1 : 16 < l.length
  · rw [if_pos h1]; exact ⟨fun e => (by cases e), fun h => by omega⟩
  · rw [if_neg h1]
    by_cases h2 : checksM l = 0
    · rw [if_neg (by simp [h2])]
      have h3 := checksM_zero.1 h2
      by_cases hb : bareM l = true
      · rw [if_pos hb]
        unfold bareM at hb
        rw [List.all_eq_true] at hb
        exact ⟨fun e => (by cases e), fun ⟨_, _, m, hm, hf⟩ => by rw [hb m hm] at hf; cases hf⟩
      · rw [if_neg hb]
        unfold bareM at hb
        rw [Bool.not_eq_true, List.all_eq_false] at hb
        exact ⟨fun _ => ⟨by omega, h3, by obtain ⟨m, hm, hf⟩ := hb; exact ⟨m, hm, by simpa using hf⟩⟩, fun _ => rfl⟩
    · rw [if_pos h2]
      exact ⟨fun e => absurd e h2, fun ⟨_, h, _⟩ => absurd (checksM_zero.2 h) h2⟩
theorem check_kind {m : Mt'} (h : checkM m = 0) : m.1 = 1 ∨ m.1 = 2 ∨ m.1 = 3 ∨ m.1 = 4 := by
  unfold checkM at h
  split at h
  · cases h
  · omega
/-! ### the text -/
def signM (k : Int) : Bs := if k = 1 then [61] else if k = 2 then [33, 61] else if k = 3 then [61, 126] else if k = 4 then [33, 126] else [63]
def oneT (m : Mt') : Bs := bl m.2.1 ++ (signM m.1 ++ quoteP (bl m.2.2))
def bracesFrom : Nat → List Mt' → Bs
  | _, [] => [125]
  | k, m :: r => (if k = 0 then [] else [44, 32]) ++ (oneT m ++ bracesFrom (k + 1) r)
def bracesM (l : List Mt') : Bs := 123 :: bracesFrom 0 l
def metricM (m : Mt') : Bool := decide (m.1 = 1) && decide (bl m.2.1 = nameLabel) && namedP (bl m.2.2)
def printM : List Mt' → Bs
  | [] => bracesM []
  | [m] => if metricM m then bl m.2.2 else bracesM [m]
  | m :: n :: r => if metricM m then bl m.2.2 ++ bracesM (n :: r) else bracesM (m :: n :: r)

/-! ### what a text is -/
/-- The sign that a text begins with, and what stands behind it. -/
def signF : Bs → Option (Nat × Bs)
  | 33 :: 126 :: r => some (4, r)
  | 61 :: 126 :: r => some (3, r)
  | 33 :: 61 :: r => some (2, r)
  | 61 :: r => some (1, r)
  | _ => none
def endK (l : List Mt') (k : Int) : List Mt' := match l.getLast? with
  | some m => l.dropLast ++ [(k, m.2.1, m.2.2)]
  | none => []
def endV (l : List Mt') (v : ByteArray) : List Mt' := match l.getLast? with
  | some m => l.dropLast ++ [(m.1, m.2.1, v)]
  | none => []
def bareName : ByteArray := mkB nameLabel
inductive Stp
  | go (k : Nat) (s : Bs) (l : List Mt')
  | done (l : List Mt')
  | bad
def metricF (s : Bs) : Bool := decide (wordN s ≠ 0) && namedP (s.take 1)
/-- What comes next, of a text without a blank ahead. -/
def stepM (k : Nat) (s : Bs) (l : List Mt') : Stp :=
  if k = 0 ∧ metricF s = true then .go 1 (s.drop (wordN s)) (l ++ [(1, bareName, mkB (s.take (wordN s)))])
  else if k ≤ 1 ∧ s.head? = some 123 then .go 2 s.tail l
  else if k = 2 ∧ wordN s ≠ 0 then .go 3 (s.drop (wordN s)) (l ++ [(0, mkB (s.take (wordN s)), noneB)])
  else if k = 3 ∧ (signF s).isSome then .go 4 ((signF s).map (·.2)).get! (endK l (((signF s).map (·.1)).get! : Nat))
  else if k = 4 ∧ (unqP s).2.2 = 0 then .go 5 (s.drop (unqP s).2.1) (endV l (mkB (unqP s).1))
  else if k = 5 ∧ s.head? = some 44 then .go 2 s.tail l
  else if (k = 5 ∨ k = 2) ∧ s.head? = some 125 then .go 6 s.tail l
  else if (k = 6 ∨ k = 1) ∧ s = [] then .done l
  else .bad
def scanM : Nat → Nat → Bs → List Mt' → Option (List Mt')
  | 0, _, _, _ => none
  | n + 1, k, s, l => match stepM k (bareP s) l with
    | .go k' s' l' => scanM n k' s' l'
    | .done l' => some l'
    | .bad => none
def readM (s : Bs) : Option (List Mt') := scanM (s.length + 1) 0 s []
def parseM (s : Bs) : Nat × List Mt' := match readM s with
  | none => (8, [])
  | some l => if rightM l ≠ 0 then (rightM l, []) else (0, l)
/-- What is read of what is left. -/
def restM (k : Nat) (s : Bs) (l : List Mt') : Option (List Mt') := scanM (s.length + 1) k s l
/-! ### there and back -/
def OkT (m : Mt') : Prop := namedP (bl m.2.1) = true ∧ (m.1 = 1 ∨ m.1 = 2 ∨ m.1 = 3 ∨ m.1 = 4)
/-! ### how long what is read is -/
def ValN (N : Nat) (l : List Mt') : Prop := ∀ m ∈ l, m.2.2.size ≤ N
theorem ValN.app {N : Nat} {l : List Mt'} {m : Mt'} (h : ValN N l) (hm : m.2.2.size ≤ N) : ValN N (l ++ [m]) := fun x hx => by
  rcases List.mem_append.1 hx with h1 | h1
  · exact h x h1
  · rw [List.mem_singleton.1 h1]; exact hm
theorem ValN.endK {N : Nat} {l : List Mt'} (h : ValN N l) (k : Int) : ValN N (endK l k) := by
  unfold Go.Proofs.YtjgappbomohlcaaGreatDoor.endK
  cases hl : l.getLast? with
  | none => intro m hm; cases hm
  | some m =>
    have hm := List.mem_of_getLast? hl
    exact ValN.app (fun x hx => h x (List.dropLast_subset l hx)) (h m hm)
theorem ValN.endV {N : Nat} {l : List Mt'} (h : ValN N l) {v : ByteArray} (hv : v.size ≤ N) : ValN N (endV l v) := by
  unfold Go.Proofs.YtjgappbomohlcaaGreatDoor.endV
  cases hl : l.getLast? with
  | none => intro m hm; cases hm
  | some m => exact ValN.app (fun x hx => h x (List.dropLast_subset l hx)) hv
end
section
set_option linter.unusedVariables false
set_option linter.unusedSimpArgs false
open Go.RowKit

/-- The cells of matchers. -/
def mcells : List Mt' → List Value
  | [] => []
  | x :: r => .int .i64 x.1 :: .string x.2.1 :: .string x.2.2 :: mcells r
def aggMt (x : Mt') : Value := .agg #[.int .i64 x.1, .string x.2.1, .string x.2.2]
theorem mcells_at : ∀ (l : List Mt') (k : Nat) (h : k < l.length), (mcells l)[k * 3]? = some (.int .i64 l[k].1) ∧ (mcells l)[k * 3 + 1]? = some (.string l[k].2.1) ∧ (mcells l)[k * 3 + 2]? = some (.string l[k].2.2)
  | [], k, h => absurd h (Nat.not_lt_zero _)
  | x :: r, 0, h => by simp [mcells]
  | x :: r, k + 1, h => by
    have ih := mcells_at r k (by simpa using h)
    rw [show (k + 1) * 3 = k * 3 + 1 + 1 + 1 by omega]
    refine ⟨?_, ?_, ?_⟩
    · simp only [mcells, List.getElem?_cons_succ, List.getElem_cons_succ]; exact ih.1
    · rw [show k * 3 + 1 + 1 + 1 + 1 = (k * 3 + 1) + 1 + 1 + 1 by omega]; simp only [mcells, List.getElem?_cons_succ, List.getElem_cons_succ]; exact ih.2.1
    · rw [show k * 3 + 1 + 1 + 1 + 2 = (k * 3 + 2) + 1 + 1 + 1 by omega]; simp only [mcells, List.getElem?_cons_succ, List.getElem_cons_succ]; exact ih.2.2
/-- A matcher at its place. -/
theorem mt_at {w : World} {A : Option Addr} {l : List Mt'} (h : Rd w A (mcells l)) {k : Nat} (hk : k < l.length) :
    ∃ b off, A = some ⟨b, off, none⟩ ∧ w.cell? ⟨b, off + k * 3, none⟩ = some (.int .i64 l[k].1) ∧ w.cell? ⟨b, off + k * 3 + 1, none⟩ = some (.string l[k].2.1) ∧ w.cell? ⟨b, off + k * 3 + 2, none⟩ = some (.string l[k].2.2) := by
  obtain ⟨h0, h1, h2⟩ := mcells_at l k hk
  obtain ⟨b, off, e, c0⟩ := h (k * 3) _ h0
  obtain ⟨b', off', e', c1⟩ := h (k * 3 + 1) _ h1
  obtain ⟨b'', off'', e'', c2⟩ := h (k * 3 + 2) _ h2
  rw [e] at e' e''
  injection e' with e'
  injection e' with e1 e2 _
  injection e'' with e''
  injection e'' with e3 e4 _
  subst e1; subst e2; subst e3; subst e4
  exact ⟨b, off, e, c0, c1, c2⟩
theorem undrewM {B : Nat} {w w' : World} (h : RowKit.Below B w.drew w') : RowKit.Below B w w' := ⟨h.os, h.tape, h.output, h.size, h.block⟩
end
section
set_option linter.unusedVariables false
set_option linter.unusedSimpArgs false
section
set_option linter.unusedVariables false
set_option linter.unusedSimpArgs false
open Go.RowKit Go.Sort
def Un (n : Nat) : Value := .int .u64 (n : Nat)
abbrev ltN : Nat → Nat → Bool := fun x y => decide (x < y)
theorem swoN : SWO ltN := ⟨fun x => by simp, fun x y z h1 h2 => by simp at h1 h2 ⊢; omega, fun x y z h1 h2 => by simp at h1 h2 ⊢; omega⟩
/-- The cells of block b: these numbers, and tl behind them. -/
def UR (w : World) (b : Nat) (tl : List Value) (d : Array Nat) : Prop := w.heap[b]? = some (.cells (d.toList.map Un ++ tl).toArray 23 (0, 0))
section
variable {w w1 : World} {b : Nat} {tl : List Value} {d : Array Nat}
theorem getN {d : Array Nat} {i : Nat} (hi : i < d.size) : d[i]! = d[i] := getElem!_pos d i hi
theorem UR.at (h : UR w b tl d) {i : Nat} (hi : i < d.size) : w.cell? ⟨b, i, none⟩ = some (.int .u64 (d[i]! : Nat)) := by
  rw [cell_blk h, getN hi, List.getElem?_toArray, List.getElem?_append_left (by simpa using hi)]
  simp [Un, hi]
theorem UR.free (h : UR w b tl d) (i : Nat) : w.frozen? ⟨b, i, none⟩ = false := free_blk h i
theorem UR.moved (h : UR w b tl d) (hk : w1.heap[b]? = w.heap[b]?) : UR w1 b tl d := hk.trans h
theorem UR.set (h : UR w b tl d) {i : Nat} (hi : i < d.size) (x : Nat) : UR (w.setCell ⟨b, i, none⟩ (.int .u64 (x : Nat))) b tl (d.setIfInBounds i x) := by
  have := set_blk h i (.int .u64 (x : Nat))
  unfold UR
  rw [this]
  have e : (d.toList.map Un ++ tl).toArray.setIfInBounds i (.int .u64 (x : Nat)) = ((d.setIfInBounds i x).toList.map Un ++ tl).toArray := by
    apply Array.ext'
    simp only [Array.toList_setIfInBounds, List.map_set]
    rw [List.set_append_left _ _ (by simpa using hi)]; rfl
  rw [e]
theorem UR.swp (h : UR w b tl d) {i j : Nat} (hi : i < d.size) (hj : j < d.size) : UR ((w.setCell ⟨b, i, none⟩ (.int .u64 (d[j]! : Nat))).setCell ⟨b, j, none⟩ (.int .u64 (d[i]! : Nat))) b tl (swp d i j) :=
  (h.set hi d[j]!).set (by simpa using hj) d[i]!
theorem size_swpN (d : Array Nat) (i j : Nat) : (Go.Sort.swp d i j).size = d.size := by unfold Go.Sort.swp; simp
end
/-- What a call that sorts leaves: the row d', and all else as it was. -/
def SO (w : World) (b : Nat) (tl : List Value) (d' : Array Nat) (w' : World) : Prop := UR w' b tl d' ∧ Mv (fun k => k = b) w w'
theorem SO.refl {w : World} {b : Nat} {tl : List Value} {d : Array Nat} (h : UR w b tl d) : SO w b tl d w := ⟨h, Mv.refl _ _⟩
theorem SO.trans {w w1 w2 : World} {b : Nat} {tl : List Value} {d d' : Array Nat} (h : SO w b tl d w1) (k : SO w1 b tl d' w2) : SO w b tl d' w2 := ⟨k.1, h.2.trans k.2 fun _ _ e => e⟩
theorem SO.swp {w w1 : World} {b : Nat} {tl : List Value} {d : Array Nat} (h : SO w b tl d w1) (n : Nat) {i j : Nat} (hi : i < d.size) (hj : j < d.size) :
    SO w b tl (Go.Sort.swp d i j) (((w1.drewN n).setCell ⟨b, i, none⟩ (.int .u64 (d[j]! : Nat))).setCell ⟨b, j, none⟩ (.int .u64 (d[i]! : Nat))) :=
  ⟨UR.swp (w := w1.drewN n) h.1 hi hj, ((h.2.drewN n).setCell (fun _ => rfl) _).setCell (fun _ => rfl) _⟩
theorem SO.drewN {w w1 : World} {b : Nat} {tl : List Value} {d : Array Nat} (h : SO w b tl d w1) (n : Nat) : SO w b tl d (w1.drewN n) := ⟨h.1, h.2.drewN n⟩
section
set_option maxHeartbeats 1600000
set_option maxRecDepth 100000
theorem isnan_any (x : Nat) (w : World) : Calls Tryz.prog 166 #[.int .u64 (x : Nat)] w fun e w' => e = .returned (.bool false) ∧ w' = w := by
  go_enter Tryz.func166, Tryz.ntmps166
  go_wp2
  go_ret
  exact ⟨by simp, rfl⟩
theorem less_any (x y : Nat) (w : World) : Calls Tryz.prog 148 #[.int .u64 (x : Nat), .int .u64 (y : Nat)] w fun e w' => e = .returned (.bool (ltN x y)) ∧ w' = w := by
  have HN := Lib.hid (fun W => isnan_any x W)
  go_enter Tryz.func148, Tryz.ntmps148
  go_wp2_with (first
    | (go_at_call 166; refine (HN.out _).mono ?_; rintro e w1 ⟨rfl, rfl⟩)
    | fail)
  go_ret
  exact ⟨by simp [ltN], rfl⟩
end
end
section
set_option linter.unusedVariables false
set_option linter.unusedSimpArgs false
open Go.RowKit Go.Sort
section
set_option maxHeartbeats 3200000
set_option maxRecDepth 100000
theorem ins_any (b c lo hi : Nat) (tl : List Value) (d : Array Nat) (w : World) (h : UR w b tl d) (hb : hi ≤ d.size) (hz : d.size ≤ 1000000) (hl : lo ≤ d.size) :
    Calls Tryz.prog 142 #[.slice (some ⟨b, 0, none⟩) d.size c, .int .i64 (lo : Nat), .int .i64 (hi : Nat)] w fun e w' => e = .returned (.tuple #[]) ∧ SO w b tl (insertionSort ltN d lo hi) w' := by
  obtain ⟨n, hn⟩ : ∃ n, n = d.size := ⟨_, rfl⟩
  rw [← hn] at hb hz hl ⊢
  have H := Lib.hid h; clear h
  have HN := Lib.hid hn; clear hn
  obtain ⟨R, hR⟩ : ∃ R, R = insertionSort ltN d lo hi := ⟨_, rfl⟩
  rw [← hR]
  have HR := Lib.hid hR; clear hR
  have HL := Lib.hid (fun x y W => less_any x y W)
  go_enter Tryz.func142, Tryz.ntmps142
  go_wp2
  go_loopw [6] (fun s6 wr => ∃ (i : Nat) (dk : Array Nat), s6 = .int .i64 i ∧ lo + 1 ≤ i ∧ i ≤ n + 1 ∧ dk.size = n ∧ Aside (SO w b tl dk wr) ∧ Aside (insOuter ltN lo hi i dk = R)) (fun s6 _ => hi - (intOf s6).toNat)
  case atStart => exact ⟨lo + 1, d, by go_num, by omega, by omega, HN.out.symm, SO.refl H.out, HR.out.symm⟩
  case round =>
    obtain ⟨i, dk, rfl, hi1, hi2, hds, S0, E⟩ := hrel
    have i0 : (0 : Int) ≤ (i : Int) := by omega
    by_cases hlt : i < hi
    · have k1 : (i : Int) < (hi : Int) := by omega
      have hE := E.out
      rw [insOuter, if_pos hlt] at hE
      have HE := Lib.hid hE; clear hE E
      obtain ⟨w9, h9⟩ : ∃ w9, w9 = wr := ⟨_, rfl⟩
      go_wp2
      go_loopw [7] (fun s7 wq => ∃ (j : Nat) (dj : Array Nat), s7 = .int .i64 j ∧ lo ≤ j ∧ j ≤ i ∧ dj.size = n ∧ Aside (SO w b tl dj wq) ∧ Aside (insOuter ltN lo hi (i + 1) (insInner ltN lo j dj) = R)) (fun s7 _ => (intOf s7).toNat)
      case atStart => exact ⟨i, dk, rfl, by omega, by omega, hds, S0.out, HE.out⟩
      case round =>
        obtain ⟨j, dj, rfl, hj1, hj2, hjs, SJ, EJ⟩ := hrel
        have j0 : (0 : Int) ≤ (j : Int) := by omega
        have hfrz := SJ.out.1.free
        by_cases hgt : lo < j
        · obtain ⟨p, rfl⟩ : ∃ p, j = p + 1 := ⟨j - 1, by omega⟩
          have k2 : (lo : Int) < ((p + 1 : Nat) : Int) := by omega
          have hjn : p + 1 < n := by omega
          have c1 := SJ.out.1.at (i := p + 1) (by omega)
          have c2 := SJ.out.1.at (i := p) (by omega)
          have hLL := HL.out dj[p + 1]! dj[p]!
          have hE := EJ.out
          rw [insInner] at hE
          have hgd : decide (p + 1 > lo) = true := by simp; omega
          rw [hgd, Bool.true_and] at hE
          have hsw := SJ.out.swp (i := p + 1) (j := p)
          obtain ⟨x, hx⟩ : ∃ x, x = dj[p + 1]! := ⟨_, rfl⟩
          obtain ⟨y, hy⟩ : ∃ y, y = dj[p]! := ⟨_, rfl⟩
          rw [← hx] at c1 hLL hE hsw
          rw [← hy] at c2 hLL hE hsw
          have HX := Lib.hid hx; have HY := Lib.hid hy
          clear hx hy hgd
          obtain ⟨t, ht⟩ : ∃ t, t = ltN x y := ⟨_, rfl⟩
          rw [← ht] at hLL hE
          have HT := Lib.hid ht; clear ht
          have HLL := Lib.hid hLL; have HE2 := Lib.hid hE; have HSW := Lib.hid hsw
          clear hLL hE hsw HE
          have q1 : (p : Int) + 1 - 1 = (p : Int) := by omega
          have q2 : (lo : Int) < (p : Int) + 1 := by omega
          have q3 : (p : Int) + 1 < (n : Int) := by omega
          have q4 : (p : Int) < (n : Int) := by omega
          have q5 : (0 : Int) ≤ (p : Int) := by omega
          have q6 : (0 : Int) ≤ (p : Int) + 1 := by omega
          cases t with
          | false =>
            go_wp2_with fail
            go_quiet (first | ((go_at_call 148; with_reducible exact Calls.quiet_of_same (HLL.out _))))
            go_wp2
            go_roundw
            case rel => exact ⟨i + 1, dj, by go_num, by omega, by omega, hjs, (show Aside _ from SJ.out.drewN _), (show Aside _ from (show _ = R from by simpa using HE2.out))⟩
            case measure => simp [intOf]; omega
          | true =>
            go_wp2_with fail
            go_quiet (first | ((go_at_call 148; with_reducible exact Calls.quiet_of_same (HLL.out _))))
            go_wp2
            go_region
            go_wp2
            go_roundw
            case rel => exact ⟨p, swp dj (p + 1) p, by go_num, by omega, by omega, by rw [size_swpN]; exact hjs, (show Aside _ from HSW.out _ (by omega) (by omega)), (show Aside _ from (show _ = R from by simpa using HE2.out))⟩
            case measure => simp [intOf]
        · have hE := EJ.out
          have hstop : insInner ltN lo j dj = dj := by
            cases j with
            | zero => rfl
            | succ p => rw [insInner, if_neg (by simp; omega)]
          rw [hstop] at hE
          have HE2 := Lib.hid hE; clear hE hstop EJ
          have k2 : ¬ (lo : Int) < (j : Int) := by omega
          go_wp2_with fail
          go_quiet (fail)
          go_wp2
          go_roundw
          case rel => exact ⟨i + 1, dj, by go_num, by omega, by omega, hjs, (show Aside _ from SJ.out.drewN _), (show Aside _ from HE2.out)⟩
          case measure => simp [intOf]; omega
    · have hE := E.out
      rw [insOuter, if_neg hlt] at hE
      subst hE
      have HS := Lib.hid S0.out
      have k1 : ¬ (i : Int) < (hi : Int) := by omega
      go_wp2
      go_end0
      exact ⟨rfl, HS.out⟩
end
end
end
section
set_option linter.unusedVariables false
set_option linter.unusedSimpArgs false
open Go.RowKit Go.Sort
theorem pow_le {l : Nat} (h : 1 ≤ l) : 1 ≤ 1 <<< bitsLen l ∧ 1 <<< bitsLen l ≤ 2 * l := by
  have e : 1 <<< bitsLen l = 2 * 2 ^ Nat.log2 l := by
    unfold bitsLen
    rw [if_neg (by omega), Nat.shiftLeft_eq, Nat.one_mul, Nat.pow_succ, Nat.mul_comm]
  rw [e]
  have h1 := Nat.log2_self_le (n := l) (by omega)
  have h2 := Nat.one_le_two_pow (n := Nat.log2 l)
  omega
theorem and_lt (x m : Nat) (hm : 1 ≤ m) : x &&& (m - 1) < m := by
  have : x &&& (m - 1) ≤ m - 1 := Nat.and_le_right
  omega
theorem xorNextN_lt {X : Nat} (hX : X < 18446744073709551616) : xorNextN X < 18446744073709551616 := by
  have h : ∀ a b : Nat, a < 2 ^ 64 → b < 2 ^ 64 → a ^^^ b < 2 ^ 64 := fun a b ha hb => Nat.xor_lt_two_pow ha hb
  unfold xorNextN
  simp only
  refine h _ _ ?_ (Nat.mod_lt _ (by decide))
  refine h _ _ ?_ (Nat.lt_of_le_of_lt (Nat.div_le_self _ _) ?_) <;> exact h _ _ hX (Nat.mod_lt _ (by decide))
theorem heap_two {w : World} {g b i j : Nat} {u v : Value} (h : b ≠ g) : (((w.setCell ⟨b, i, none⟩ u).setCell ⟨b, j, none⟩ v).drew).heap[g]? = w.heap[g]? := by
  show ((w.setCell ⟨b, i, none⟩ u).setCell ⟨b, j, none⟩ v).heap[g]? = _
  rw [Below.heap_setCell _ _ _ _ (Ne.symm h), Below.heap_setCell _ _ _ _ (Ne.symm h)]
section
set_option maxHeartbeats 6400000
set_option maxRecDepth 100000
theorem brk_any (b c a hi n : Nat) (tl : List Value) (d : Array Nat) (w : World) (h : UR w b tl d) (hn : n = d.size) (hb : hi ≤ n) (hz : n ≤ 1000000) (h8 : a + 8 ≤ hi) :
    Calls Tryz.prog 144 #[.slice (some ⟨b, 0, none⟩) n c, .int .i64 (a : Nat), .int .i64 (hi : Nat)] w fun e w' => e = .returned (.tuple #[]) ∧ ∃ d', PermIn a hi d d' ∧ SO w b tl d' w' := by
  have H := Lib.hid h
  obtain ⟨l, hl⟩ : ∃ l, l = hi - a := ⟨_, rfl⟩
  obtain ⟨i0, hi0⟩ : ∃ i0, i0 = a + l / 4 * 2 - 1 := ⟨_, rfl⟩
  obtain ⟨q, hq⟩ : ∃ q, q = l / 4 := ⟨_, rfl⟩
  obtain ⟨mo, hmo⟩ : ∃ mo, mo = 1 <<< bitsLen l := ⟨_, rfl⟩
  obtain ⟨m1, m2⟩ := pow_le (l := l) (by omega)
  rw [← hmo] at m1 m2
  have hP := fun W => AnyF.nextPowerOfTwo Tryz.pow2X l (by omega) W
  rw [← hmo] at hP
  have HP := Lib.hid hP; clear hP
  have q0 : (hi : Int) - (a : Int) = (l : Int) := by omega
  have q1 : (l : Int).tdiv 4 = (q : Int) := by rw [hq]; rfl
  have q3 : (a : Int) + (q : Int) * 2 - 1 = (i0 : Int) := by omega
  have q4 : (a : Int) + (q : Int) * 2 + 1 = ((i0 + 2 : Nat) : Int) := by omega
  have k8 : (8 : Int) ≤ (l : Int) := by omega
  have hb0 := (RowKit.Below.refl w.heap.size w).alloc (Nat.le_refl _) (.cells #[.int .u64 (l : Nat)] 191)
  have hne : b ≠ w.heap.size := by have := blk_lt h; omega
  have HF0 := Lib.hid (show SO w b tl d (w.alloc (.cells #[.int .u64 (l : Nat)] 191)) from ⟨h.moved (hb0.block b (blk_lt h)), (Mv.refl _ w).alloc _⟩)
  have HX0 := Lib.hid (heap_alloc_new w (.cells #[.int .u64 (l : Nat)] 191))
  have g1 : a ≤ i0 ∧ i0 + 2 < hi := by omega
  have hds := hn.symm
  have hah : a + l = hi := by omega
  obtain ⟨g1a, g1b⟩ := g1
  have HN := Lib.hid hn
  clear hl hi0 hq hmo h hn hb0
  go_enter Tryz.func144, Tryz.ntmps144
  go_wp2_with (first
    | (go_at_call 137; refine (HP.out _).mono ?_; rintro e w1 ⟨rfl, rfl⟩)
    | fail)
  go_loopw [9] (fun s9 wr => ∃ (i X : Nat) (dk : Array Nat), s9 = .int .i64 i ∧ i0 ≤ i ∧ i ≤ i0 + 3 ∧ dk.size = n ∧ X < 18446744073709551616 ∧ Aside (PermIn a hi d dk) ∧ Aside (SO w b tl dk wr) ∧ Aside (wr.heap[w.heap.size]? = some (.cells #[.int .u64 (X : Nat)] 191 (0, 0)))) (fun s9 _ => i0 + 3 - (intOf s9).toNat)
  case atStart => exact ⟨i0, l, d, rfl, by omega, by omega, hds, by omega, permIn_refl d a hi, HF0.out, HX0.out⟩
  case round =>
    obtain ⟨i, X, dk, rfl, hi1, hi2, hks, hX, PI, S0, BX⟩ := hrel
    obtain ⟨w1, h1⟩ : ∃ w1, w1 = wr := ⟨_, rfl⟩
    rw [← h1] at S0 BX ⊢
    clear h1
    by_cases hlt : i ≤ i0 + 2
    · have k1 : (i : Int) ≤ ((i0 + 2 : Nat) : Int) := by omega
      have hY : xorNextN X < 18446744073709551616 := xorNextN_lt hX
      obtain ⟨Y, hYd⟩ : ∃ Y, Y = xorNextN X := ⟨_, rfl⟩
      have hNX := AnyF.xorshift_Next Tryz.nextX w.heap.size 0 X hX w1 (cell_blk BX.out 0) (free_blk BX.out 0)
      rw [← hYd] at hNX hY
      clear hYd
      have hs2 : SO w b tl dk ((w1.setCell ⟨w.heap.size, 0, none⟩ (.int .u64 (Y : Nat))).drewN 3) := by
        refine SO.drewN ⟨S0.out.1.moved (Below.heap_setCell _ _ _ _ hne), S0.out.2.setCell (fun h => absurd h (Nat.lt_irrefl _)) _⟩ 3
      have hb2 : ((w1.setCell ⟨w.heap.size, 0, none⟩ (.int .u64 (Y : Nat))).drewN 3).heap[w.heap.size]? = some (.cells #[.int .u64 (Y : Nat)] 191 (0, 0)) := set_blk BX.out 0 _
      obtain ⟨W2, hW2⟩ : ∃ W2, W2 = (w1.setCell ⟨w.heap.size, 0, none⟩ (.int .u64 (Y : Nat))).drewN 3 := ⟨_, rfl⟩
      rw [← hW2] at hNX hs2 hb2
      have HNX := Lib.hid hNX; have HB2 := Lib.hid hb2
      clear hNX hb2 hW2
      obtain ⟨o, ho⟩ : ∃ o, o = Y &&& (mo - 1) := ⟨_, rfl⟩
      have hom : o < mo := by rw [ho]; exact and_lt Y mo m1
      have hand : bits .and .u64 (Y : Int) ((mo - 1 : Nat) : Int) = (o : Int) := by rw [ho]; exact u64_and_nat _ _ hY (by omega)
      have q5 : (mo : Int) - 1 = ((mo - 1 : Nat) : Int) := by omega
      have HO := Lib.hid ho; clear ho
      obtain ⟨m', hm'⟩ : ∃ m', m' = mo - 1 := ⟨_, rfl⟩
      rw [← hm'] at hand q5
      clear hm'
      have v1 : IntKind.u64.wrap (m' : Int) = (m' : Int) := IntWalk.u64_in _ (by omega)
      have v2 : IntKind.i64.wrap (o : Int) = (o : Int) := IntWalk.i64_in _ (by omega)
      obtain ⟨r, hr⟩ : ∃ r, r = if l ≤ o then o - l else o := ⟨_, rfl⟩
      have hrl : r < l := by rw [hr]; split <;> omega
      have S2 : Aside (SO w b tl dk W2) := hs2
      clear hs2 S0
      have hcase : ∀ (dd : Array Nat), dd = swp dk i (a + r) → PermIn a hi d dd := fun dd e => by rw [e]; exact permIn_trans _ _ _ _ _ PI.out (swp_permIn _ _ _ _ _ (by omega) (by omega) (by omega) (by omega) (by omega))
      have HCA := Lib.hid hcase; clear hcase
      obtain ⟨ar, har⟩ : ∃ ar, ar = a + r := ⟨_, rfl⟩
      have q7 : (a : Int) + (r : Int) = (ar : Int) := by omega
      have v3 : IntKind.i64.wrap (ar : Int) = (ar : Int) := IntWalk.i64_in _ (by omega)
      have harn : ar < n := by omega
      have HAR := Lib.hid har; clear har
      by_cases hlo : l ≤ o
      · have k2 : (l : Int) ≤ (o : Int) := by omega
        have k3 : decide (l ≤ o) = true := decide_eq_true hlo
        have q6 : (o : Int) - (l : Int) = (r : Int) := by rw [hr, if_pos hlo]; omega
        have HR := Lib.hid hr; clear hr
        have hfrz := S2.out.1.free
        have r1 := S2.out.1.at (i := i) (by omega)
        have r2 := S2.out.1.at (i := ar) (by omega)
        have hsw := S2.out.swp (i := i) (j := ar)
        have b1 : (i : Int) < (n : Int) := by omega
        have b2 : (ar : Int) < (n : Int) := by omega
        have z1 : (0 : Int) ≤ (i : Int) := by omega
        have z2 : (0 : Int) ≤ (ar : Int) := by omega
        by_cases hpq : i = ar
        · rw [← hpq] at r2 b2 z2 hsw
          obtain ⟨x, hx⟩ : ∃ x, x = dk[i]! := ⟨_, rfl⟩
          rw [← hx] at r1 r2 hsw
          have HSW := Lib.hid hsw; clear hsw hx r2 b2 z2
          have e1 : (ar : Int) = (i : Int) := by omega
          have HPQ := Lib.hid hpq
          clear hpq
          go_wp2_with (first
            | (go_at_call 138; refine HNX.out.mono ?_; rintro e w3 ⟨rfl, rfl⟩)
            | (fail))
          go_region
          go_wp2
          go_roundw
          case rel => exact ⟨i + 1, Y, swp dk i i, by go_num, by omega, by omega, by rw [size_swpN]; exact hks, hY, (show Aside _ from HCA.out _ (by rw [HPQ.out]; rw [← HAR.out])), (show Aside _ from HSW.out _ (by omega) (by omega)), (show Aside _ from (heap_two hne).trans HB2.out)⟩
          case measure => simp [intOf]; omega
        · obtain ⟨x, hx⟩ : ∃ x, x = dk[i]! := ⟨_, rfl⟩
          obtain ⟨y, hy⟩ : ∃ y, y = dk[ar]! := ⟨_, rfl⟩
          rw [← hx] at r1 hsw
          rw [← hy] at r2 hsw
          have HSW := Lib.hid hsw; clear hsw hx hy
          have n1 : ¬ ar = i := fun e => hpq e.symm
          have n2 : ¬ (i : Int) = (ar : Int) := by omega
          have n3 : ¬ (ar : Int) = (i : Int) := by omega
          go_wp2_with (first
            | (go_at_call 138; refine HNX.out.mono ?_; rintro e w3 ⟨rfl, rfl⟩)
            | (fail))
          go_region
          go_wp2
          go_roundw
          case rel => exact ⟨i + 1, Y, swp dk i ar, by go_num, by omega, by omega, by rw [size_swpN]; exact hks, hY, (show Aside _ from HCA.out _ (by rw [← HAR.out])), (show Aside _ from HSW.out _ (by omega) (by omega)), (show Aside _ from (heap_two hne).trans HB2.out)⟩
          case measure => simp [intOf]; omega
      · have k2 : ¬ (l : Int) ≤ (o : Int) := by omega
        have k3 : decide (l ≤ o) = false := decide_eq_false hlo
        rw [if_neg hlo] at hr
        subst hr
        have hfrz := S2.out.1.free
        have r1 := S2.out.1.at (i := i) (by omega)
        have r2 := S2.out.1.at (i := ar) (by omega)
        have hsw := S2.out.swp (i := i) (j := ar)
        have b1 : (i : Int) < (n : Int) := by omega
        have b2 : (ar : Int) < (n : Int) := by omega
        have z1 : (0 : Int) ≤ (i : Int) := by omega
        have z2 : (0 : Int) ≤ (ar : Int) := by omega
        by_cases hpq : i = ar
        · rw [← hpq] at r2 b2 z2 hsw
          obtain ⟨x, hx⟩ : ∃ x, x = dk[i]! := ⟨_, rfl⟩
          rw [← hx] at r1 r2 hsw
          have HSW := Lib.hid hsw; clear hsw hx r2 b2 z2
          have e1 : (ar : Int) = (i : Int) := by omega
          have HPQ := Lib.hid hpq
          clear hpq
          go_wp2_with (first
            | (go_at_call 138; refine HNX.out.mono ?_; rintro e w3 ⟨rfl, rfl⟩)
            | (fail))
          go_region
          go_wp2
          go_roundw
          case rel => exact ⟨i + 1, Y, swp dk i i, by go_num, by omega, by omega, by rw [size_swpN]; exact hks, hY, (show Aside _ from HCA.out _ (by rw [HPQ.out]; rw [← HAR.out])), (show Aside _ from HSW.out _ (by omega) (by omega)), (show Aside _ from (heap_two hne).trans HB2.out)⟩
          case measure => simp [intOf]; omega
        · obtain ⟨x, hx⟩ : ∃ x, x = dk[i]! := ⟨_, rfl⟩
          obtain ⟨y, hy⟩ : ∃ y, y = dk[ar]! := ⟨_, rfl⟩
          rw [← hx] at r1 hsw
          rw [← hy] at r2 hsw
          have HSW := Lib.hid hsw; clear hsw hx hy
          have n1 : ¬ ar = i := fun e => hpq e.symm
          have n2 : ¬ (i : Int) = (ar : Int) := by omega
          have n3 : ¬ (ar : Int) = (i : Int) := by omega
          go_wp2_with (first
            | (go_at_call 138; refine HNX.out.mono ?_; rintro e w3 ⟨rfl, rfl⟩)
            | (fail))
          go_region
          go_wp2
          go_roundw
          case rel => exact ⟨i + 1, Y, swp dk i ar, by go_num, by omega, by omega, by rw [size_swpN]; exact hks, hY, (show Aside _ from HCA.out _ (by rw [← HAR.out])), (show Aside _ from HSW.out _ (by omega) (by omega)), (show Aside _ from (heap_two hne).trans HB2.out)⟩
          case measure => simp [intOf]; omega
    · have k1 : ¬ (i : Int) ≤ ((i0 + 2 : Nat) : Int) := by omega
      have HF := Lib.hid S0.out
      go_wp2
      go_end0
      exact ⟨rfl, dk, PI.out, HF.out⟩
end
end
section
set_option linter.unusedVariables false
set_option linter.unusedSimpArgs false
open Go.RowKit
set_option maxRecDepth 100000 in
/-- A row of bytes as a text. -/
theorem run_str (w : World) (A : Option Addr) (c : Nat) (xs : Bs) (h : Rd w A (xs.map Bv)) : (convert 85 9 (.slice A xs.length c)).run Tryz.prog w = .ok (.string (mkB xs)) w := by
  cases A with
  | none =>
    have : xs = [] := by
      cases xs with
      | nil => rfl
      | cons x r => obtain ⟨b, off, e, _⟩ := h 0 (Bv x) rfl; cases e
    subst this
    exact run_convert_bytes_nil w 85 5 Tryz.underlying85 Tryz.underlying5 0 c 9 Tryz.underlying9
  | some a =>
    cases xs with
    | nil =>
      obtain ⟨b, off, spot⟩ := a
      rw [run_convert_bytes_string w 85 9 5 _ _ _ Tryz.underlying85 Tryz.underlying5 Tryz.underlying9]
      have := run_bytesToString (P := Tryz.prog) w ⟨b, off, spot⟩ 0 c [] (by simp [loadCells, loadCellsFrom])
      exact this
    | cons x r =>
      obtain ⟨b, off, e, _⟩ := h 0 (Bv x) rfl
      injection e with e
      subst e
      have hget : ∀ i, (hi : i < (x :: r).length) → ((x :: r).map Bv)[i]? = some (Bv (x :: r)[i]) ∧ ((x :: r).map fun y => (y.toNat : Int)).getD i 0 = ((x :: r)[i].toNat : Int) := fun i hi => by
        generalize x :: r = l at hi ⊢
        exact ⟨by rw [List.getElem?_map, List.getElem?_eq_getElem hi]; rfl, by rw [List.getD, List.getElem?_map, List.getElem?_eq_getElem hi]; rfl⟩
      have hc := run_convert_bytes_arg (P := Tryz.prog) w 85 5 Tryz.underlying85 Tryz.underlying5 b off (x :: r).length c ((x :: r).map fun y => (y.toNat : Int)) (by simp) (fun i hi => by
        obtain ⟨b', off', e, hcell⟩ := h i _ (hget i hi).1
        injection e with e; injection e with e1 e2 _; subst e1; subst e2
        rw [hcell, (hget i hi).2]; rfl) 9 Tryz.underlying9
      rw [hc]
      congr 2
      unfold strOfNums mkB
      simp [Function.comp_def]
end
section
set_option linter.unusedVariables false
set_option linter.unusedSimpArgs false
open Go.RowKit
theorem neqLb (x y : Lb) (w : World) : (binOp .neq 80 (.agg #[.string x.1, .string x.2]) (.agg #[.string y.1, .string y.2])).run Tryz.prog w = .ok (.bool (!decide (x = y))) w := by
  have hS : Tryz.prog.underlying 80 = some (.struct (Tryz.prog.fieldsOf 80)) := by kernel_rfl
  have hp : Tryz.prog.stoodInHeld 80 = false := by kernel_rfl
  rw [run_neq_struct, show (10000 : Nat) = 9999 + 1 from rfl, run_equalIn_agg w 9999 80 _ _ hS hp]
  simp only [Program.fieldsOf, Tryz.underlying80]
  obtain ⟨x1, x2⟩ := x
  obtain ⟨y1, y2⟩ := y
  have e1 : (x1.toList == y1.toList) = decide (x1 = y1) := by
    rw [toList_bl, toList_bl, Bool.beq_eq_decide_eq]; exact decide_eq_decide.2 bl_inj_iff
  have e2 : (x2.toList == y2.toList) = decide (x2 = y2) := by
    rw [toList_bl, toList_bl, Bool.beq_eq_decide_eq]; exact decide_eq_decide.2 bl_inj_iff
  have d1 : (x1.toList = y1.toList) = (x1 = y1) := by rw [toList_bl, toList_bl]; exact propext bl_inj_iff
  have d2 : (x2.toList = y2.toList) = (x2 = y2) := by rw [toList_bl, toList_bl]; exact propext bl_inj_iff
  go_simp
  by_cases h1 : x1 = y1 <;> by_cases h2 : x2 = y2 <;> simp [h1, h2, d1, d2]
theorem guardLb (op : BinOp) (a b : Operand) (x y : Lb) (w : World) : (eqGuard op 80 a b (.agg #[.string x.1, .string x.2]) (.agg #[.string y.1, .string y.2])).run Tryz.prog w = .ok () w :=
  GuardAt.agg (α := Lb) (fun x => #[.string x.1, .string x.2]) (by kernel_rfl) op a b x y w
section
set_option maxHeartbeats 1600000
set_option maxRecDepth 100000
theorem rsame_any (A B : Option Addr) (ca cb : Nat) (l m : List Lb) (w : World) (hx : Rd w A (lcells l)) (hy : Rd w B (lcells m)) (hl : l.length ≤ 1000000) (hm : m.length ≤ 1000000) :
    Calls Tryz.prog 21 #[.slice A l.length ca, .slice B m.length cb] w fun e w' => e = .returned (.bool (decide (l = m))) ∧ ∃ n, w' = w.drewN n := by
  obtain ⟨R, hR⟩ : ∃ R, R = decide (l = m) := ⟨_, rfl⟩
  rw [← hR]
  by_cases hlen : l.length = m.length
  · have g0 : ((l.length : Int) != (m.length : Int)) = false := by rw [hlen]; simp
    have HLEN := Lib.hid hlen
    have HR := Lib.hid hR
    clear hR hlen
    go_enter Tryz.func21, Tryz.ntmps21
    go_wp2
    go_loopw [13] (fun s13 wr => ∃ k n : Nat, s13 = .int .i64 k ∧ k ≤ l.length ∧ wr = w.drewN n ∧ Aside (l.take k = m.take k)) (fun s13 _ => l.length - (intOf s13).toNat)
    case atStart => exact ⟨0, 0, rfl, by omega, rfl, rfl⟩
    case round =>
      obtain ⟨k, n, rfl, hk, rfl, E⟩ := hrel
      have k0 : (0 : Int) ≤ (k : Int) := by omega
      by_cases hlt : k < l.length
      · have hlt2 : k < m.length := by have := HLEN.out; omega
        have k1 : (k : Int) < (l.length : Int) := by omega
        have k2 : (k : Int) < (m.length : Int) := by omega
        have hnn : ∀ q, (w.drewN n).drewN q = w.drewN (n + q) := fun q => World.drewN_drewN _ _ _
        obtain ⟨b, off, rfl, c0, c1⟩ := lb_at (hx.drewN n) hlt
        obtain ⟨b', off', rfl, d0, d1⟩ := lb_at (hy.drewN n) hlt2
        have HNN := Lib.hid hnn; clear hnn
        generalize hW : w.drewN n = W at c0 c1 d0 d1 HNN
        have HW := Lib.hid hW; clear hW hx hy
        have hneq := fun u => neqLb l[k] m[k] u
        have hgd := fun op a b u => guardLb op a b l[k] m[k] u
        have hfin : R = true → l[k] = m[k] := fun h => by
          have := HR.out; rw [h] at this; have := of_decide_eq_true this.symm; subst this; rfl
        have hstep : l[k] = m[k] → l.take (k + 1) = m.take (k + 1) := fun h => by
          rw [List.take_succ_eq_append_getElem hlt, List.take_succ_eq_append_getElem hlt2, E.out, h]
        have HF := Lib.hid hfin; clear hfin
        have HS := Lib.hid hstep; clear hstep
        generalize l[k] = x at c0 c1 hneq hgd HF HS
        generalize m[k] = y at d0 d1 hneq hgd HF HS
        by_cases he : x = y
        · simp only [he, decide_true, Bool.not_true] at hneq
          have HST := Lib.hid (HS.out he)
          subst he
          obtain ⟨x1, x2⟩ := x
          simp only at c0 c1 d0 d1 hneq hgd
          clear HF HS
          go_wp2_with fail
          go_quiet (fail)
          go_wp2
          go_roundw
          case rel => exact ⟨k + 1, n + nq, by go_num, by omega, by rw [HNN.out], (show Aside _ from HST.out)⟩
          case measure => simp [intOf]; omega
        · have hr : R = false := by cases hh : R with | false => rfl | true => exact absurd (HF.out hh) he
          subst hr
          simp only [he, decide_false, Bool.not_false] at hneq
          obtain ⟨x1, x2⟩ := x
          obtain ⟨y1, y2⟩ := y
          simp only at c0 c1 d0 d1 hneq hgd
          clear HF HS he
          go_wp2_with fail
          go_quiet (fail)
          go_wp2
          go_ret
          exact ⟨rfl, n + nq, HNN.out _⟩
      · obtain rfl : k = l.length := by omega
        have hr : R = true := by
          rw [HR.out]
          have := E.out
          rw [List.take_of_length_le (Nat.le_refl _), HLEN.out, List.take_of_length_le (Nat.le_refl _)] at this
          exact decide_eq_true this
        subst hr
        go_wp2
        go_ret
        exact ⟨rfl, n, rfl⟩
  · have hr : R = false := by rw [hR]; exact decide_eq_false (fun e => hlen (by rw [e]))
    subst hr
    have g0 : ((l.length : Int) != (m.length : Int)) = true := by rw [bne_iff_ne]; omega
    clear hR
    go_enter Tryz.func21, Tryz.ntmps21
    go_wp2
    go_ret
    exact ⟨rfl, 0, rfl⟩
end
end
section
set_option linter.unusedVariables false
set_option linter.unusedSimpArgs false
open Go.RowKit
section
variable {α : Type} {f : α → List Value} {m : Nat}
theorem flat_len (hm : ∀ x, (f x).length = m) : ∀ l : List α, (l.flatMap f).length = l.length * m
  | [] => by simp
  | x :: r => by rw [List.flatMap_cons, List.length_append, hm, flat_len hm r, List.length_cons, Nat.add_mul]; omega
theorem flat_at (hm : ∀ x, (f x).length = m) : ∀ (l : List α) (k : Nat) (hk : k < l.length) (i : Nat), i < m → (l.flatMap f)[k * m + i]? = (f l[k])[i]?
  | x :: r, 0, _, i, hi => by
    rw [List.flatMap_cons, Nat.zero_mul, Nat.zero_add, List.getElem?_append_left (by rw [hm]; exact hi)]; rfl
  | x :: r, k + 1, hk, i, hi => by
    rw [List.flatMap_cons, List.getElem?_append_right (by rw [hm, Nat.add_mul]; omega), hm, show (k + 1) * m + i - m = k * m + i by rw [Nat.add_mul]; omega]
    exact flat_at hm r k (by simpa using hk) i hi
theorem Rd.flat {w : World} {A : Option Addr} {l : List α} (h : Rd w A (l.flatMap f)) (hm : ∀ x, (f x).length = m) (h0 : 0 < m) {k : Nat} {x : α} (hk : l[k]? = some x) :
    ∃ b off, A = some ⟨b, off, none⟩ ∧ ∀ i v, (f x)[i]? = some v → w.cell? ⟨b, off + k * m + i, none⟩ = some v := by
  obtain ⟨hlt, rfl⟩ := List.getElem?_eq_some_iff.1 hk
  have hf0 : (f l[k])[0]? = some ((f l[k])[0]'(by rw [hm]; exact h0)) := List.getElem?_eq_getElem _
  obtain ⟨b, off, e, _⟩ := h (k * m + 0) _ ((flat_at hm l k hlt 0 h0).trans hf0)
  refine ⟨b, off, e, fun i v hv => ?_⟩
  have hi : i < m := by rw [← hm l[k]]; exact (List.getElem?_eq_some_iff.1 hv).1
  obtain ⟨b', off', e', c⟩ := h (k * m + i) v ((flat_at hm l k hlt i hi).trans hv)
  rw [e] at e'
  injection e' with e'; injection e' with e1 e2 _; subst e1; subst e2
  rw [Nat.add_assoc]; exact c
theorem rd_flat {w : World} {b off : Nat} {l : List α} (hm : ∀ x, (f x).length = m) (h0 : 0 < m) (h : ∀ k x, l[k]? = some x → ∀ i v, (f x)[i]? = some v → w.cell? ⟨b, off + k * m + i, none⟩ = some v) : Rd w (some ⟨b, off, none⟩) (l.flatMap f) := by
  intro j v hv
  refine ⟨b, off, rfl, ?_⟩
  have hj : j < l.length * m := by rw [← flat_len hm]; exact (List.getElem?_eq_some_iff.1 hv).1
  have hk : j / m < l.length := Nat.div_lt_of_lt_mul (by rw [Nat.mul_comm]; exact hj)
  have hi : j % m < m := Nat.mod_lt _ h0
  have e : j / m * m + j % m = j := by rw [Nat.mul_comm]; exact Nat.div_add_mod j m
  have := h (j / m) l[j / m] (List.getElem?_eq_getElem hk) (j % m) v (by rw [← flat_at hm l (j / m) hk (j % m) hi, e]; exact hv)
  rw [Nat.add_assoc, e] at this
  exact this
end
end
section
set_option linter.unusedVariables false
set_option linter.unusedSimpArgs false
open Go.ChangeShapes Go.WideShapes Go.ChangeAt Go.RowKit
section
variable {H : Type} {enc : TypeId × Value → H} {W : World}
set_option maxRecDepth 100000 in
theorem trod_labels {fuel : Nat} {v : Value} {x : DataW H × List MemPlace} (hf : DataW.trod enc Tryz.prog W 0 (fun _ => true) true fuel 25 [v] = some x) :
    ∃ (A : Option Addr) (cap : Nat) (l : List Lb), v = .slice A l.length cap ∧ (l.length ≤ cap ∧ cap ≤ maxLen) ∧ Rd W A (lcells l) ∧ ∀ x ∈ l, x.1.size ≤ maxLen ∧ x.2.size ≤ maxLen := by
  rcases Go.Deep.open_slice_pairs Tryz.underlying25 Tryz.underlying80 (by kernel_rfl) rfl rfl (by kernel_rfl) (by kernel_rfl) hf with ⟨hcs, _⟩ | ⟨a, len, cap, m, n, V0, V1, D0, D1, P0, P1, hcs, _, hl, hm, hmm, _, hx⟩
  · injection hcs with hcs; subst hcs
    exact ⟨none, 0, [], rfl, ⟨by decide, by decide⟩, Rd.nil _ _, fun o ho => by cases ho⟩
  · injection hcs with hcs; subst hcs
    simp only [if_true] at hmm
    rw [hmm] at hx
    clear hmm
    have each : ∀ i, i < cap → ∃ o : Lb, V0 i = .string o.1 ∧ V1 i = .string o.2 ∧ o.1.size ≤ maxLen ∧ o.2.size ≤ maxLen := by
      intro i hi
      obtain ⟨_, _, t0, t1⟩ := hx i hi
      obtain ⟨s0, e0, _, w0⟩ := DataW.trod_string Tryz.underlying9 t0
      obtain ⟨s1, e1, _, w1⟩ := DataW.trod_string Tryz.underlying9 t1
      simp at e0 e1
      exact ⟨(s0, s1), e0, e1, w0, w1⟩
    let f : Nat → Lb := fun i => if h : i < cap then (each i h).choose else (⟨#[]⟩, ⟨#[]⟩)
    have hfs : ∀ i, i < cap → V0 i = .string (f i).1 ∧ V1 i = .string (f i).2 ∧ (f i).1.size ≤ maxLen ∧ (f i).2.size ≤ maxLen := by
      intro i hi
      have : f i = (each i hi).choose := dif_pos hi
      rw [this]
      exact (each i hi).choose_spec
    by_cases hc0 : len = 0
    · subst hc0
      exact ⟨some a, cap, [], rfl, ⟨by simp, hm⟩, Rd.nil _ _, fun o ho => by cases ho⟩
    · obtain ⟨c00, _, _, _⟩ := hx 0 (by omega)
      rw [Nat.zero_mul] at c00
      obtain ⟨b, off, _, h00, _, _⟩ := addr_flat c00
      have := h00 rfl
      subst this
      refine ⟨some ⟨b, off, none⟩, cap, (List.range len).map f, by simp, ⟨by simpa using hl, hm⟩, rd_lb fun k hk => ?_, fun o ho => ?_⟩
      · have hk' : k < len := by simpa using hk
        obtain ⟨c0, c1, _, _⟩ := hx k (by omega)
        obtain ⟨s0, s1, _⟩ := hfs k (by omega)
        refine ⟨?_, ?_⟩
        · rw [add_plain] at c0
          rw [c0, s0]; simp
        · rw [add_plain, ← Nat.add_assoc] at c1
          rw [c1, s1]; simp
      · obtain ⟨i, hi, rfl⟩ := List.mem_map.1 ho
        exact (hfs i (by have := List.mem_range.1 hi; omega)).2.2
end
end
section
set_option linter.unusedVariables false
set_option linter.unusedSimpArgs false
open Go.ChangeShapes Go.WideShapes Go.ChangeAt Go.RowKit
structure OpP where
  cut : Bool
  ref : Nat
  A : Option Addr
  c : Nat
  ls : List Lb
def opP (o : OpP) : List Value := [.bool o.cut, .int .u64 (o.ref : Nat), .slice o.A o.ls.length o.c]
theorem opP_len (o : OpP) : (opP o).length = 3 := rfl
def OpIn (w : World) (o : OpP) : Prop := o.ref < 18446744073709551616 ∧ Rd w o.A (lcells o.ls) ∧ (o.ls.length ≤ o.c ∧ o.c ≤ maxLen) ∧ ∀ x ∈ o.ls, x.1.size ≤ maxLen ∧ x.2.size ≤ maxLen
theorem OpIn.below {w w' : World} {o : OpP} (h : OpIn w o) (hb : Below w.heap.size w w') : OpIn w' o := ⟨h.1, h.2.1.below hb, h.2.2⟩
theorem bounds_u64P {n : Int} (h : (Lit.int .u64 n).wf = true) : 0 ≤ n ∧ n ≤ 18446744073709551615 := by
  simp [Lit.wf, IntKind.min, IntKind.max, IntKind.signed, IntKind.bits] at h
  omega
section
variable {H : Type} {enc : TypeId × Value → H} {W : World}
set_option maxRecDepth 100000 in
theorem trod_opP {fuel : Nat} {v0 v1 v2 : Value} {x : DataW H × List MemPlace} (hf : DataW.trod enc Tryz.prog W 0 (fun _ => true) true fuel 36 [v0, v1, v2] = some x) : ∃ o : OpP, [v0, v1, v2] = opP o ∧ OpIn W o := by
  obtain ⟨xs, n, _, _, _, hxl, hF⟩ := DataW.trod_struct Tryz.underlying36 hf
  match xs, hxl with
  | [y0, y1, y2], _ =>
    have g0 := hF 0 _ rfl
    have g1 := hF 1 _ rfl
    have g2 := hF 2 _ rfl
    rw [show Tryz.prog.cellsOf _ = 1 from by kernel_rfl] at g0 g1 g2
    simp at g0 g1 g2
    obtain ⟨n0, e0, _⟩ := DataW.trod_bool Tryz.underlying4 g0
    obtain ⟨n1, e1, _, w1⟩ := DataW.trod_int Tryz.underlying23 g1
    obtain ⟨A, c, ls, e2, w2, w3, w4⟩ := trod_labels g2
    simp at e0 e1 e2
    have hb := bounds_u64P w1
    exact ⟨⟨n0, n1.toNat, A, c, ls⟩, by rw [e0, e1, e2]; unfold opP; simp only; congr 3; congr 1; omega, by simp only; omega, w3, w2, w4⟩
set_option maxRecDepth 100000 in
theorem open_opsP {r : Reach} {b0 : Nat} {v : Value} {d : DataW H} {ps : List MemPlace} (hval : Value.okWide Tryz.prog W r b0 22 v) (h : DataW.Trod enc Tryz.prog W 0 (fun _ => true) true 22 v d ps) :
    ∃ (A : Option Addr) (cap : Nat) (l : List OpP), v = .slice A l.length cap ∧ (l.length ≤ cap ∧ cap ≤ maxLen) ∧ Rd W A (l.flatMap opP) ∧ ∀ o ∈ l, OpIn W o := by
  obtain ⟨a0, len, cap, rfl⟩ := okWide_slice Tryz.underlying22 hval
  obtain ⟨fuel, hf⟩ := h
  rcases Go.Deep.open_slice Tryz.underlying22 hf with ⟨hcs, _⟩ | ⟨a, len', cap', m, n, D, Pl, hcs, hb, hl, hm, hmm, hy, hx⟩
  · simp [Value.cells] at hcs
    obtain ⟨rfl, rfl, rfl⟩ := hcs
    exact ⟨none, 0, [], rfl, ⟨by decide, by decide⟩, Rd.nil _ _, fun o ho => by cases ho⟩
  · simp [Value.cells] at hcs
    obtain ⟨rfl, rfl, rfl⟩ := hcs
    simp only [if_true] at hmm
    rw [hmm] at hx
    have each : ∀ i, i < cap → ∃ o : OpP, OpIn W o ∧ ∀ j v, (opP o)[j]? = some v → W.cell? (a.add (i * 3 + j)) = some v := by
      intro i hi
      obtain ⟨cs', h1, h2⟩ := hx i hi
      rw [show Tryz.prog.cellsOf 36 = 3 from by kernel_rfl] at h1
      obtain ⟨_, hlen, hcell⟩ := World.cells?_some h1
      match cs', hlen with
      | [v0, v1, v2], _ =>
        obtain ⟨o, e, ho⟩ := trod_opP h2
        refine ⟨o, ho, fun j v hv => ?_⟩
        rw [← e] at hv
        have hj : j < 3 := (List.getElem?_eq_some_iff.1 hv).1
        have := hcell j (by omega)
        rw [Go.Deep.add_add] at this
        rw [this]
        obtain ⟨hj', e'⟩ := List.getElem?_eq_some_iff.1 hv
        rw [← e']
        simp [List.getD, hj']
    let f : Nat → OpP := fun i => if h : i < cap then (each i h).choose else ⟨false, 0, none, 0, []⟩
    have hfs : ∀ i, i < cap → OpIn W (f i) ∧ ∀ j v, (opP (f i))[j]? = some v → W.cell? (a.add (i * 3 + j)) = some v := by
      intro i hi
      have : f i = (each i hi).choose := dif_pos hi
      rw [this]
      exact (each i hi).choose_spec
    by_cases hc0 : len = 0
    · subst hc0
      exact ⟨some a, cap, [], rfl, ⟨by simp, hm⟩, Rd.nil _ _, fun o ho => by cases ho⟩
    · have c00 := (hfs 0 (by omega)).2 0 _ rfl
      rw [Nat.zero_mul, Nat.zero_add] at c00
      obtain ⟨b, off, _, h00, _, _⟩ := addr_flat c00
      have := h00 rfl
      subst this
      refine ⟨some ⟨b, off, none⟩, cap, (List.range len).map f, by simp, ⟨by simpa using hl, hm⟩, rd_flat opP_len (by decide) fun k x hk i v hv => ?_, fun o ho => ?_⟩
      · obtain ⟨hk', e⟩ := List.getElem?_eq_some_iff.1 hk
        have hk2 : k < len := by simpa using hk'
        have e2 : f k = x := by rw [← e]; simp
        have := (hfs k (by omega)).2 i v (by rw [e2]; exact hv)
        rw [add_plain, ← Nat.add_assoc] at this
        exact this
      · obtain ⟨i, hi, rfl⟩ := List.mem_map.1 ho
        exact (hfs i (by have := List.mem_range.1 hi; omega)).1
end
end
section
set_option linter.unusedVariables false
set_option linter.unusedSimpArgs false
open Go.RowKit
/-- The cells of a list of texts. -/
def tcells (ns : List ByteArray) : List Value := ns.map Value.string
theorem tcells_len (ns : List ByteArray) : (tcells ns).length = ns.length := by unfold tcells; rw [List.length_map]
theorem tx_at {w : World} {A : Option Addr} {ns : List ByteArray} (h : Rd w A (tcells ns)) {k : Nat} (hk : k < ns.length) :
    ∃ b off, A = some ⟨b, off, none⟩ ∧ w.cell? ⟨b, off + k, none⟩ = some (.string ns[k]) := by
  exact h k _ (by unfold tcells; simp [hk])
theorem infoTxt : (Tryz.prog.info? 9).map (fun i => (i.zero, i.size, i.bytes)) = some (some (.string ⟨#[]⟩), 1, 16) := by kernel_rfl
theorem tcells_append (l m : List ByteArray) : tcells (l ++ m) = tcells l ++ tcells m := List.map_append
theorem tcells_one' (l : List ByteArray) : ∀ u ∈ tcells l, u.oneCell' = true := by
  intro u hu
  obtain ⟨x, _, rfl⟩ := List.mem_map.1 hu
  rfl
theorem own_rdT {w : World} {B : Nat} {v : Value} {l : List ByteArray} (h : w.ownsRow B 9 1 v l.length (tcells l)) : ∃ A c, v = .slice A l.length c ∧ Rd w A (tcells l) := by
  obtain ⟨A, c, e, h1, -⟩ := own_rd h
  exact ⟨A, c, e, h1⟩
theorem wpList_append_tx {w : World} {ops : Array Oper} {rest : List Oper} {o : Oper} {a : Act} {Q : Exit → Act → World → Prop} (hgd : o.guard = none) (s x : Operand)
    (ho : o.op = .call { callee := .builtin .append, args := #[s, x], argTypes := #[56, 56] })
    (base : Nat) (v : Value) (xs : List ByteArray) (hs : a.eval s = v) (hown : w.ownsRow base 9 1 v xs.length (tcells xs))
    (ad : Addr) (c : Nat) (ys : List ByteArray) (hx : a.eval x = .slice (some ad) ys.length c) (hy : Rd w (some ad) (tcells ys))
    (hl : xs.length + ys.length ≤ 1000000) (hbase : base ≤ w.heap.size)
    (h : ∀ v' w', w'.ownsRow base 9 1 v' (xs ++ ys).length (tcells (xs ++ ys)) → w.grownBy w' v.ownBlock → wpList Tryz.prog ops Q rest (a.put o.dst v') w') : wpList Tryz.prog ops Q (o :: rest) a w := by
  obtain ⟨i0, hi, hz0, hz1, hz2⟩ := info_parts infoTxt
  rw [List.length_append, tcells_append] at h
  exact wpList_append_own w hgd s x 56 ho base 9 i0 (.string ⟨#[]⟩) 1 16 Tryz.underlying56 hi hz0 hz1 hz2 rfl (by decide) v xs.length (tcells xs) hs hown ad ys.length c (tcells ys) hx (by rw [tcells_len]; omega) (rd_cells hy) (tcells_one' ys) (by unfold maxLen; omega) (by omega) hbase (fun v' w' a b _ => h v' w' a b)
end
end Go.Proofs.YtjgappbomohlcaaGreatDoor
