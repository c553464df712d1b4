/-
  What fills up a text; a state's words as bytes.
  Sums of what was written; the same text twice; parts one behind the other.
  Parts written one behind the other, and their sum.
  Sums of parts that are handed on as they lie.
  The chapter's examples, which each law of this layer asks first: they come out as the document says.
  The table of what rounds add: from what the row lays to the cells; a world for the witnesses.
  Few texts, and short ones.
  Few and short texts, put together.
  A key's 64 bytes, plain and xored; rows of bytes held against one another to the end.
  A long key; sums with a key.
-/
import Derived.Deep.DeepHandedRow
import Derived.Lib.LaidTab
import Derived.Deep.RegionLaw
import Derived.Laws.BitsAllLaws
import Derived.Test.YtgpmghnemhngeaaDoorCAd
import Derived.Test.YtgpmghnemhngeaaDoorC01
import Derived.Test.YtgpmghnemhngeaaDoorCWn
import Derived.Test.YtgpmghnemhngeaaDoorC02
import Derived.Test.YtgpmghnemhngeaaDoorCards
import Derived.Test.YtgpmghnemhngeaaDoorTie
namespace Go.Proofs.YtgpmghnemhngeaaDoor
section
set_option linter.unusedVariables false
set_option linter.unusedSimpArgs false
open Go.RowKit

/-- What fills up, the first k bytes of its number laid. -/
def padK (n k : Nat) : List UInt8 := 128 :: (List.replicate (zerosN n) 0 ++ ((big8 (8 * n)).take k ++ List.replicate (8 - k) 0))
theorem padK_length (n k : Nat) (h : k ≤ 8) : (padK n k).length = 9 + zerosN n := by simp [padK, big8_length]; omega
theorem padK_zero (n : Nat) : padK n 0 = 128 :: List.replicate (zerosN n + 8) 0 := by
  unfold padK
  rw [List.take_zero, List.nil_append, List.replicate_append_replicate]
theorem padK_full (n : Nat) : padK n 8 = padS n := by
  unfold padK padS
  rw [List.take_of_length_le (by rw [big8_length]; exact Nat.le_refl _), Nat.sub_self, List.replicate_zero, List.append_nil]
theorem big8_get (n k : Nat) (h : k < 8) : (big8 n)[k]'(by rw [big8_length]; exact h) = UInt8.ofNat (n / 2 ^ (8 * (7 - k)) % 256) := by simp [big8]
theorem padK_set (n k : Nat) (h : k < 8) : (padK n k).set (1 + zerosN n + k) (UInt8.ofNat (8 * n / 2 ^ (8 * (7 - k)) % 256)) = padK n (k + 1) := by
  unfold padK
  rw [show 1 + zerosN n + k = (zerosN n + k) + 1 from by omega, List.set_cons_succ, List.set_append, if_neg (by simp), List.length_replicate, Nat.add_sub_cancel_left]
  have hl : ((big8 (8 * n)).take k).length = k := by rw [List.length_take, big8_length]; omega
  rw [List.set_append, if_neg (by omega), hl, Nat.sub_self]
  congr 2
  rw [show 8 - k = (8 - (k + 1)) + 1 from by omega, List.replicate_succ, List.set_cons_zero, List.take_succ_eq_append_getElem (by rw [big8_length]; exact h), List.append_assoc, big8_get _ _ h]
  rfl

theorem made_row {w1 : World} {base g N : Nat} (h : w1.ownsRow base 5 1 (.slice (some ⟨g, 0, none⟩) N N) N (madeCells (Value.int .u8 0).cells (N * 1)).toList) :
    w1.ownsRow base 5 1 (.slice (some ⟨g, 0, none⟩) N N) N ((List.replicate N (0 : UInt8)).map Bv) := by
  have e : (madeCells (Value.int .u8 0).cells (N * 1)).toList = (List.replicate N (0 : UInt8)).map Bv := by
    rw [Nat.mul_one, List.map_replicate]
    exact toList_madeCells_one (.int .u8 0) N
  rw [← e]
  exact h
theorem row_cell {w1 : World} {base g N : Nat} {l : List UInt8} (h : w1.ownsRow base 5 1 (.slice (some ⟨g, 0, none⟩) N N) N (l.map Bv)) {k : Nat} (hk : k < l.length) :
    (∃ v, w1.cell? ⟨g, k, none⟩ = some v) ∧ w1.frozen? ⟨g, k, none⟩ = false := by
  have hc := h.cells (g := g) rfl k (Bv l[k]) (by simp [hk])
  rw [add_flat] at hc
  exact ⟨⟨_, hc⟩, h.frozenAt k⟩
theorem row_set {w1 : World} {base g N : Nat} {l : List UInt8} (h : w1.ownsRow base 5 1 (.slice (some ⟨g, 0, none⟩) N N) N (l.map Bv)) (k : Nat) {x : Int} {m : Nat} (hx : x = (m : Nat)) (hm : m < 256) :
    (w1.setCell ⟨g, k, none⟩ (.int .u8 x)).ownsRow base 5 1 (.slice (some ⟨g, 0, none⟩) N N) N ((l.set k (UInt8.ofNat m)).map Bv) := by
  have e := (h.stored k (.int .u8 x)).1
  rw [List.map_set, ← byte_of hx hm]
  exact e

/-- An array of n bytes in block b, of which the first k are told. -/
def BytesAt (w : World) (b : Nat) (t : TypeId) (n k : Nat) (f : Nat → Nat) : Prop :=
  ∃ cs : Array Value, w.heap[b]? = some (.cells cs t (0, 0)) ∧ cs.size = n ∧ ∀ i, i < k → cs[i]? = some (.int .u8 (f i : Nat))
theorem BytesAt.cell {w : World} {b : Nat} {t : TypeId} {n k : Nat} {f : Nat → Nat} (h : BytesAt w b t n k f) {i : Nat} (hi : i < n) : ∃ v, w.cell? ⟨b, i, none⟩ = some v := by
  obtain ⟨cs, hb, hn, hf⟩ := h
  exact ⟨cs[i]'(by omega), by rw [cell_blk hb]; simp [hn, hi]⟩
theorem BytesAt.free {w : World} {b : Nat} {t : TypeId} {n k : Nat} {f : Nat → Nat} (h : BytesAt w b t n k f) (i : Nat) : w.frozen? ⟨b, i, none⟩ = false := by
  obtain ⟨cs, hb, _, _⟩ := h
  exact free_blk hb i
theorem BytesAt.set {w : World} {b : Nat} {t : TypeId} {n k i : Nat} {f : Nat → Nat} (h : BytesAt w b t n k f) {x : Int} (hk : k < n) (hi : i = k) (hx : x = (f k : Nat)) : BytesAt (w.setCell ⟨b, i, none⟩ (.int .u8 x)) b t n (k + 1) f := by
  subst hi
  obtain ⟨cs, hb, hn, hf⟩ := h
  refine ⟨_, set_blk hb i _, by simp [hn], fun j hj => ?_⟩
  rw [Array.getElem?_setIfInBounds]
  by_cases e : i = j
  · subst e; rw [if_pos rfl, if_pos (by omega), hx]
  · rw [if_neg e]; exact hf j (by omega)
theorem BytesAt.block {w w' : World} {b : Nat} {t : TypeId} {n k : Nat} {f : Nat → Nat} (h : BytesAt w b t n k f) (hb : w'.heap[b]? = w.heap[b]?) : BytesAt w' b t n k f := by
  obtain ⟨cs, h1, h2⟩ := h
  exact ⟨cs, hb.trans h1, h2⟩

section
set_option maxHeartbeats 1600000
set_option maxRecDepth 100000
theorem ending_any (w : World) (n : Nat) (hn : n ≤ 140737488355328) :
    Calls Tryd.prog 28 #[.int .i64 (n : Nat)] w fun e w' => ∃ v, e = .returned v ∧ w'.ownsRow w.heap.size 5 1 v (9 + zerosN n) ((padS n).map Bv) ∧ Below w.heap.size w w' := by
  obtain ⟨i0, hi, hz0, hz1, hz2⟩ := info_parts infoU8
  obtain ⟨z, hz⟩ : ∃ z, z = zerosN n := ⟨_, rfl⟩
  have hzl : z < 64 := by rw [hz]; unfold zerosN; omega
  have hze : (119 - (n : Int) % 64) % 64 = (z : Int) := by rw [hz]; unfold zerosN; omega
  rw [← hz]
  have hlen := padK_length n
  have hset := padK_set n
  have hzr := padK_zero n
  rw [← hz] at hlen hset hzr
  have HZ := Lib.hid hz; clear hz
  have HS := Lib.hid hset; clear hset
  have HZR := Lib.hid hzr; clear hzr
  have HL := Lib.hid hlen; clear hlen
  go_enter Tryd.func28, Tryd.ntmps28
  go_wp2_with (first | (at_make; refine wpList_make_full _ rfl _ _ 28 rfl w.heap.size 5 i0 (.int .u8 0) 1 Tryd.underlying28 hi hz0 hz1 _ _ _ _ (9 + z) rfl rfl (by omega) (by omega) (by rw [hz2]; omega) (by unfold maxLen; omega) (Nat.le_refl _) ?_; intro w1 hown hgrow; have hown := made_row hown; obtain ⟨⟨v0, hv0⟩, hf0⟩ := row_cell hown (k := 0) (by simp; omega)) | fail)
  have hown1 := row_set hown 0 (x := 128) (m := 128) rfl (by decide)
  have hown2 : (w1.setCell ⟨w.heap.size, 0, none⟩ (.int .u8 128)).ownsRow w.heap.size 5 1 (.slice (some ⟨w.heap.size, 0, none⟩) (9 + z) (9 + z)) (9 + z) ((padK n 0).map Bv) := by
    rw [HZR.out]
    rw [show 9 + z = (z + 8) + 1 from by omega] at hown1 ⊢
    rw [List.replicate_succ, List.set_cons_zero] at hown1
    exact hown1
  have hb2 : Below w.heap.size w (w1.setCell ⟨w.heap.size, 0, none⟩ (.int .u8 128)) := ((Below.refl _ _).grown hgrow (Nat.le_refl _) (fun k e => by cases e)).setCell (Nat.le_refl _) _
  clear hown1
  go_wp2
  clear hown hv0 hf0 hgrow
  go_loopw [20] (fun i wr => ∃ k : Nat, k ≤ 8 ∧ i = .int .i64 k ∧ wr.ownsRow w.heap.size 5 1 (.slice (some ⟨w.heap.size, 0, none⟩) (9 + z) (9 + z)) (9 + z) ((padK n k).map Bv) ∧ Below w.heap.size w wr) (fun i _ => 8 - (intOf i).toNat)
  case atStart => exact ⟨0, by omega, rfl, hown2, hb2⟩
  case round =>
    clear hown2 hb2
    obtain ⟨k, hk, rfl, hown, hb⟩ := hrel
    by_cases hlt : k < 8
    · obtain ⟨⟨v0, hv0⟩, hf0⟩ := row_cell hown (k := 1 + z + k) (by rw [HL.out k hk]; omega)
      have hst := HS.out k hlt
      have HST := Lib.hid hst; clear hst
      obtain ⟨e, he⟩ : ∃ e, e = 8 * (7 - k) := ⟨_, rfl⟩
      have he2 : (8 : Int) * (7 - (k : Int)) = (e : Int) := by omega
      have he3 : e ≤ 56 := by omega
      rw [← he] at HST
      have HE := Lib.hid he; clear he
      go_wp2
      go_roundw
      case rel =>
        refine ⟨k + 1, by omega, by go_num, ?_, hb.setCell (Nat.le_refl _) _⟩
        rw [← HST.out]
        exact row_set hown _ (by rw [natCast_two_pow, Nat.mul_comm 8 n]; rfl) (Nat.mod_lt _ (by decide))
      case measure => simp [intOf]; omega
    · have h8 : k = 8 := by omega
      rw [h8, padK_full] at hown
      clear h8
      go_wp2
      go_ret
      exact ⟨_, rfl, hown, hb⟩

theorem bytesOf_any (w : World) (s : St) (hs : s.Ok) :
    Calls Tryd.prog 29 #[stV s] w fun e w' => e = .returned (.agg ((outS s).map Bv).toArray) ∧ Below w.heap.size w w' := by
  rw [stV_eq]
  go_enter Tryd.func29, Tryd.ntmps29
  go_wp2
  go_loopw [7] (fun i wr => ∃ k : Nat, k ≤ 8 ∧ i = .int .i64 k ∧ BytesAt wr (w.heap.size + 1 + 1) 25 32 (4 * k) (outB s) ∧ BytesAt wr (w.heap.size + 1) 25 32 0 (outB s) ∧ Below w.heap.size w wr) (fun i _ => 8 - (intOf i).toNat)
  case atStart => exact ⟨0, by omega, rfl, ⟨_, by rw [show w.heap.size + 1 + 1 = ((w.alloc (.cells (stC s).toArray 49)).alloc (.cells (Array.replicate 32 (.int .u8 0)) 25)).heap.size from by simp]; exact heap_alloc_new _ _, rfl, fun i h => by omega⟩,
      ⟨_, (heap_alloc_old _ _ (by simp)).trans (heap_alloc_new2 w _ _), rfl, fun i h => by omega⟩, (((Below.refl _ w).alloc (Nat.le_refl _) _).alloc (by simp) _).alloc (by simp; omega) _⟩
  case round =>
    obtain ⟨k, hk, rfl, hW, hZ, hb⟩ := hrel
    by_cases hlt : k < 8
    · have hix := fun (u : World) => run_index_agg (P := Tryd.prog) u 49 48 8 k (stC s).toArray _ Tryd.underlying49 (by kernel_rfl) (by kernel_rfl) (by kernel_rfl) hlt (by simpa using stC_get s k hlt)
      simp only [stC] at hix
      have hx := hs.at k
      have b0 : outB s (4 * k) = s.at k / 16777216 := by unfold outB; rw [show 4 * k / 4 = k from by omega, show 4 * k % 4 = 0 from by omega]; show s.at k / 16777216 % 256 = _; omega
      have b1 : outB s (4 * k + 1) = s.at k / 65536 % 256 := by unfold outB; rw [show (4 * k + 1) / 4 = k from by omega, show (4 * k + 1) % 4 = 1 from by omega]
      have b2 : outB s (4 * k + 2) = s.at k / 256 % 256 := by unfold outB; rw [show (4 * k + 2) / 4 = k from by omega, show (4 * k + 2) % 4 = 2 from by omega]
      have b3 : outB s (4 * k + 3) = s.at k % 256 := by unfold outB; rw [show (4 * k + 3) / 4 = k from by omega, show (4 * k + 3) % 4 = 3 from by omega]; show s.at k / 1 % 256 = _; rw [Nat.div_one]
      have B0 := Lib.hid b0; clear b0
      have B1 := Lib.hid b1; clear b1
      have B2 := Lib.hid b2; clear b2
      have B3 := Lib.hid b3; clear b3
      generalize s.at k = x at *
      obtain ⟨v0, hv0⟩ := hW.cell (i := 4 * k) (by omega)
      obtain ⟨v1, hv1⟩ := hW.cell (i := 4 * k + 1) (by omega)
      obtain ⟨v2, hv2⟩ := hW.cell (i := 4 * k + 2) (by omega)
      obtain ⟨v3, hv3⟩ := hW.cell (i := 4 * k + 3) (by omega)
      have f0 := hW.free (4 * k)
      have f1 := hW.free (4 * k + 1)
      have f2 := hW.free (4 * k + 2)
      have f3 := hW.free (4 * k + 3)
      go_wp2
      go_roundw
      case rel =>
        refine ⟨k + 1, by omega, by go_num, ?_, hZ.block ?_, (((hb.setCell (by simp; omega) _).setCell (by simp; omega) _).setCell (by simp; omega) _).setCell (by simp; omega) _⟩
        · rw [show 4 * (k + 1) = 4 * k + 1 + 1 + 1 + 1 from by omega]
          exact (((hW.set (by omega) rfl (by rw [B0.out]; rfl)).set (by omega) rfl (by rw [B1.out]; rfl)).set (by omega) rfl (by rw [B2.out]; rfl)).set (by omega) rfl (by rw [B3.out]; rfl)
        · rw [heap_setCell_other _ _ _ _ (by simp), heap_setCell_other _ _ _ _ (by simp), heap_setCell_other _ _ _ _ (by simp), heap_setCell_other _ _ _ _ (by simp)]
      case measure => simp [intOf]; omega
    · have h8 : 4 * k = 32 := by omega
      rw [h8] at hW
      clear h8
      obtain ⟨cs, hcs, hcz, hcf⟩ := hW
      obtain ⟨zs, hzs, hzz, _⟩ := hZ
      have hce : cs = ((outS s).map Bv).toArray := by
        refine words_eq (by rw [hcz, List.length_map, outS_length]) fun i hi => ?_
        have hi2 : i < 32 := by simpa [outS_length] using hi
        rw [hcf i hi2, List.getElem?_map, outS_get s hi2, Option.map_some, ← byte_of rfl (outB_lt s i)]
      obtain ⟨cl, hcl⟩ : ∃ cl, cl = (outS s).map Bv := ⟨_, rfl⟩
      have hcn : cl.length = 32 := by rw [hcl, List.length_map, outS_length]
      have hone : ∀ v ∈ cl, v.oneCell' = true := by rw [hcl]; intro v hv; obtain ⟨x, _, rfl⟩ := List.mem_map.1 hv; rfl
      rw [hce, ← hcl] at hcs
      clear hce hcf hcz
      have HCL := Lib.hid hcl; clear hcl
      have HCN := Lib.hid hcn; clear hcn
      have HCS := Lib.hid hcs; clear hcs
      have HZS := Lib.hid hzs; clear hzs
      have HZZ := Lib.hid hzz; clear hzz
      have HON := Lib.hid hone; clear hone
      go_wp2_with (first
        | (refine wpList_load_agg (o := ⟨some 38, _, _, _, _, _⟩) ?_ 25 (.tmp 3) ?_ (w.heap.size + 1 + 1) 0 ?_ cl ?_ ?_ ?_ ?_; rfl; rfl; rfl; kernel_rfl; (rw [HCN.out]; kernel_rfl); (intro i v hv; rw [cell_blk HCS.out, Nat.zero_add]; simpa using hv))
        | (refine wpList_store_agg (o := ⟨none, _, _, _, _, _⟩) ?_ 25 (.tmp 2) (.tmp 38) ?_ (w.heap.size + 1) 0 cl ?_ ?_ 25 zs HZS.out ?_ ?_ HON.out ?_; rfl; rfl; rfl; rfl; (rw [HCN.out]; kernel_rfl); (rw [HCN.out, HZZ.out]; decide); intro w7 hg7 hm7 hs7)
        | fail)
      have hg8 : w7.heap[w.heap.size + 1]? = some (.cells cl.toArray 25 (0, 0)) := by
        rw [hg7]
        congr 2
        simp [spl, splice, HCN.out, HZZ.out, List.drop_eq_nil_of_le]
      have HG8 := Lib.hid hg8; clear hg8 hg7 hs7
      refine bodyPost_cell rfl (w.heap.size + 1) 25 cl.toArray rfl HG8.out (by kernel_rfl) (by rw [List.size_toArray, HCN.out]; kernel_rfl) rfl ⟨?_, hb.trans (hm7.belowB (by have := hb.size; omega) (fun k hk e => by omega))⟩
      rw [HCL.out]
end
end
section
set_option linter.unusedVariables false
set_option linter.unusedSimpArgs false
open Go.RowKit

/-- A sum as the model has it. -/
def sumV (l : List UInt8) : Value := .agg (l.map Bv).toArray
theorem hashC_one (s : St) (R : List UInt8) (n : Nat) : ∀ v ∈ hashC s R n, v.oneCell' = true := by
  intro v hv
  simp only [hashC, stC, List.mem_cons, List.mem_append, List.not_mem_nil, or_false, List.mem_map] at hv
  rcases hv with rfl | (rfl | rfl | rfl | rfl | rfl | rfl | rfl | rfl) | (⟨x, _, rfl⟩ | rfl) <;> rfl

section
set_option maxHeartbeats 1600000
set_option maxRecDepth 100000
theorem hsum_any (w : World) (p : Nat) (xs : List UInt8) (h : HashIs w p xs) (ht : AddsMet w) (hl : xs.length ≤ 140737488350000) :
    Calls Tryd.prog 17 #[.pointer (some ⟨p, 0, none⟩)] w fun e w' => e = .returned (sumV (sha xs)) ∧ Below w.heap.size w w' := by
  obtain ⟨R, hr, hR⟩ := h
  have c0 := hr.cell 0
  rw [hashC_made] at c0
  have c73 := hr.cell 73
  rw [hashC_size hr.2] at c73
  have hpl := hr.lt
  obtain ⟨st, hst⟩ : ∃ st, st = blocksS iv (xs.length / 64) xs := ⟨_, rfl⟩
  rw [← hst] at hr
  have hln := hashC_length (s := st) (n := xs.length) hr.2
  have hce : ∀ (o : Obj) (i : Nat) v, (hashC st R xs.length)[i]? = some v → (w.alloc o).cell? ⟨p, 0 + i, none⟩ = some v := fun o i v hv => by
    rw [((hr.block (heap_alloc_old w o hpl)) : HashRaw (w.alloc o) p st R xs.length).cell, Nat.zero_add]; exact hv
  have k73 : ∀ (o1 o2 : Obj) (w7 : World), Mv (fun k => k = w.heap.size + 1) ((w.alloc o1).alloc o2) w7 → w7.cell? ⟨p, 73, none⟩ = some (.int .i64 (xs.length : Nat)) := fun o1 o2 w7 hm => by
    have hb7 := ((hm.block p (by simp; omega) (by omega)).trans (heap_alloc_old _ o2 (by simp; omega))).trans (heap_alloc_old w o1 hpl)
    rw [(hr.block hb7).cell]; exact hashC_size hr.2
  have K73 := Lib.hid k73; clear k73
  have hone := hashC_one st R xs.length
  obtain ⟨cl, hcl⟩ : ∃ cl, cl = hashC st R xs.length := ⟨_, rfl⟩
  rw [← hcl] at hln hce hone
  have HLN := Lib.hid hln; clear hln
  have HCE := Lib.hid hce; clear hce
  have HON := Lib.hid hone; clear hone
  have HR := Lib.hid hr; clear hr
  have HRT := Lib.hid hR; clear hR
  have HST := Lib.hid hst; clear hst
  have HCL := Lib.hid hcl; clear hcl
  have HT := Lib.hid ht; clear ht
  go_enter Tryd.func17, Tryd.ntmps17
  go_wp2_with (first
    | (refine wpList_load_agg (o := ⟨some 16, _, _, _, _, _⟩) ?_ 53 (.tmp 15) ?_ p 0 ?_ cl ?_ ?_ ?_ ?_; rfl; rfl; rfl; kernel_rfl; (rw [HLN.out]; kernel_rfl); exact HCE.out _)
    | (refine wpList_store_agg (o := ⟨none, _, _, _, _, _⟩) ?_ 53 (.tmp 3) (.tmp 16) ?_ (w.heap.size + 1) 0 cl ?_ ?_ 53 _ (heap_alloc_new2 w _ _) ?_ ?_ HON.out ?_; rfl; rfl; rfl; rfl; (rw [HLN.out]; kernel_rfl); (rw [HLN.out]; decide); intro w7 hg7 hm7 hs7; have hc73 := K73.out _ _ _ hm7; have HG7 := Lib.hid hg7; clear hg7)
    | fail)
  clear c73
  have hbz : Below w.heap.size w w7 := (((Below.refl _ w).alloc (Nat.le_refl _) _).alloc (by simp) _).trans (hm7.belowB (by simp; omega) (fun k hk e => by omega))
  have hres : w7.heap[w.heap.size]? = some (.cells (Array.replicate 32 (.int .u8 0)) 25 (0, 0)) := (hm7.block _ (by simp; omega) (by omega)).trans ((heap_alloc_old _ _ (by simp)).trans (heap_alloc_new w _))
  have hg8 : w7.heap[w.heap.size + 1]? = some (.cells (hashC st R xs.length).toArray 53 (0, 0)) := by
    rw [HG7.out, ← HCL.out]
    congr 2
    simp [spl, splice, HLN.out]
  have hi7 : HashIs w7 (w.heap.size + 1) xs := ⟨R, by rw [← HST.out]; exact ⟨hg8, HR.out.2⟩, HRT.out⟩
  have hz7 : w.heap.size + 2 = w7.heap.size := by rw [hs7]; simp
  have ht7 := HT.out.below hbz
  clear hg8 hm7 hs7 HG7
  have HI := Lib.hid hi7; clear hi7
  have HT7 := Lib.hid ht7; clear ht7
  have HZ := Lib.hid hz7; clear hz7
  have HRES := Lib.hid hres; clear hres
  refine (ending_any w7 xs.length (by omega)).mono ?_
  rintro e w8 ⟨v8, rfl, own8, hb8⟩
  obtain ⟨A8, c8, rfl, rd8, hA8, hn8, hm8⟩ := own_rd own8
  have hA8' : ∀ k, A8.map (·.block) = some k → k ≠ w.heap.size + 1 := by
    intro k hk e
    rw [hA8] at hk
    have := (own8.lt k hk).1
    have := HZ.out
    omega
  have hi8 := HI.out.below hb8
  have ht8 := HT7.out.below hb8
  have hres8 := (hb8.block w.heap.size (by have := HZ.out; omega)).trans HRES.out
  have hb8' := hbz.trans (hb8.mono (by have := HZ.out; omega))
  have hz8 : w.heap.size + 2 ≤ w8.heap.size := by have := HZ.out; have := hb8.size; omega
  have hzn : zerosN xs.length < 64 := by unfold zerosN; omega
  have hpd := padS_length xs.length
  have hll : (xs ++ padS xs.length).length / 64 = (xs.length + 9 + zerosN xs.length) / 64 := by rw [List.length_append, hpd, Nat.add_assoc]
  have hsha : sha xs = outS (blocksS iv ((xs ++ padS xs.length).length / 64) (xs ++ padS xs.length)) := by rw [hll]; rfl
  generalize hps : padS xs.length = ps at *
  generalize hpn : 9 + zerosN xs.length = pn at *
  have HPD := Lib.hid hpd; clear hpd
  have HSHA := Lib.hid hsha; clear hsha hll
  have HT8 := Lib.hid ht8; clear ht8
  have HI8 := Lib.hid hi8; clear hi8
  have HR8 := Lib.hid hres8; clear hres8
  have hpn2 : pn < 73 := by omega
  unfold maxLen at hm8
  clear hps hpn hA8 own8 hb8 hbz
  go_wp2_with fail
  refine (add_any w8 (w.heap.size + 1) xs ps A8 c8 pn HI8.out HT8.out HPD.out rd8 (fun _ => hA8') hn8 (by omega) (by omega)).mono ?_
  rintro e w9 ⟨rfl, hi9, hm9⟩
  obtain ⟨R9, hr9, _⟩ := hi9
  have hb9 : Below w.heap.size w w9 := hb8'.trans (hm9.belowB (by omega) (fun k hk e => by omega))
  have hres9 := (hm9.block w.heap.size (by omega) (by omega)).trans HR8.out
  have hz9 : w.heap.size + 2 ≤ w9.heap.size := by have := hm9.size; omega
  have hok : (blocksS iv ((xs ++ ps).length / 64) (xs ++ ps)).Ok := blocksS_ok iv_ok _ _
  generalize blocksS iv ((xs ++ ps).length / 64) (xs ++ ps) = s9 at *
  have HR9 := Lib.hid hr9; clear hr9
  have HRES9 := Lib.hid hres9; clear hres9
  obtain ⟨sl, hsl⟩ : ∃ sl, sl = stC s9 := ⟨_, rfl⟩
  have HSL := Lib.hid hsl; clear hsl
  go_wp2_with (first
    | (refine wpList_load_agg (o := ⟨some 24, _, _, _, _, _⟩) ?_ 49 (.tmp 23) ?_ (w.heap.size + 1) 1 ?_ sl ?_ ?_ ?_ ?_; rfl; rfl; rfl; kernel_rfl; (rw [HSL.out]; kernel_rfl); (rw [HSL.out]; intro i v hv; rw [HR9.out.cell, hashC_state _ _ _ i (by have := (List.getElem?_eq_some_iff.1 hv).1; exact this), ← stC_get _ i (by have := (List.getElem?_eq_some_iff.1 hv).1; exact this)]; exact hv))
    | fail)
  rw [HSL.out]
  refine (bytesOf_any w9 s9 hok).mono ?_
  rintro e wa ⟨rfl, hba⟩
  rw [← HSHA.out]
  have hresa := (hba.block w.heap.size (by omega)).trans HRES9.out
  have hbb := hb9.trans (hba.mono (by omega))
  have HRA := Lib.hid hresa; clear hresa
  obtain ⟨cm, hcm⟩ : ∃ cm, cm = (sha xs).map Bv := ⟨_, rfl⟩
  have hcn : cm.length = 32 := by rw [hcm, List.length_map, sha_length]
  have hone : ∀ v ∈ cm, v.oneCell' = true := by rw [hcm]; intro v hv; obtain ⟨x, _, rfl⟩ := List.mem_map.1 hv; rfl
  rw [← hcm]
  have HCM := Lib.hid hcm; clear hcm
  have HCN := Lib.hid hcn; clear hcn
  have HON2 := Lib.hid hone; clear hone
  go_wp2_with (first
    | (refine wpList_store_agg (o := ⟨none, _, _, _, _, _⟩) ?_ 25 (.tmp 2) (.tmp 25) ?_ w.heap.size 0 cm ?_ ?_ 25 (Array.replicate 32 (.int .u8 0)) HRA.out ?_ ?_ HON2.out ?_; rfl; rfl; rfl; rfl; (rw [HCN.out]; kernel_rfl); (rw [HCN.out]; decide); intro wb hgb hmb hsb)
    | fail)
  have hg9 : wb.heap[w.heap.size]? = some (.cells cm.toArray 25 (0, 0)) := by
    rw [hgb]
    congr 2
    simp [spl, splice, HCN.out]
  have HG9 := Lib.hid hg9; clear hg9 hgb hsb
  refine bodyPost_cell rfl w.heap.size 25 cm.toArray rfl HG9.out (by kernel_rfl) (by rw [List.size_toArray, HCN.out]; kernel_rfl) rfl ⟨?_, hbb.trans (hmb.belowB (by have := hbb.size; omega) (fun k hk e => by omega))⟩
  rw [HCM.out]
  rfl
end
end
section
set_option linter.unusedVariables false
set_option linter.unusedSimpArgs false
open Go.RowKit

/-- Parts that can be read: where they stand, and each of them. -/
structure PartsRd (w : World) (S : Option Addr) (P : List (Option Addr × Nat × List UInt8)) : Prop where
  row : Rd w S (P.map partV)
  part : ∀ p ∈ P, Rd w p.1 (p.2.2.map Bv) ∧ p.2.2.length ≤ p.2.1 ∧ p.2.1 ≤ 9223372036854775807
theorem PartsRd.below {w w' : World} {S : Option Addr} {P : List (Option Addr × Nat × List UInt8)} (h : PartsRd w S P) (hb : Below w.heap.size w w') : PartsRd w' S P :=
  ⟨h.row.below hb, fun p hp => ⟨(h.part p hp).1.below hb, (h.part p hp).2⟩⟩
/-- No part, nor the row of parts, lies in block b. -/
structure PartsOff (b : Nat) (S : Option Addr) (P : List (Option Addr × Nat × List UInt8)) : Prop where
  row : 0 < P.length → ∀ k, S.map (·.block) = some k → k ≠ b
  part : ∀ p ∈ P, 0 < p.2.2.length → ∀ k, p.1.map (·.block) = some k → k ≠ b
theorem PartsRd.mv {w w' : World} {S : Option Addr} {P : List (Option Addr × Nat × List UInt8)} {b : Nat} (h : PartsRd w S P) (ho : PartsOff b S P) (hm : Mv (fun k => k = b) w w') : PartsRd w' S P :=
  ⟨Mv.rd1 hm h.row (fun h0 k e => ho.row (by simpa using h0) k e), fun p hp => ⟨Mv.rd1 hm (h.part p hp).1 (fun h0 k e => ho.part p hp (by simpa using h0) k e), (h.part p hp).2⟩⟩
/-- A row that can be read lies below the heap's end, where it has anything. -/
theorem Rd.lt {w : World} {A : Option Addr} {xs : List Value} (h : Rd w A xs) (h0 : 0 < xs.length) : ∀ k, A.map (·.block) = some k → k < w.heap.size := by
  intro k hk
  obtain ⟨b, off, rfl, hc⟩ := h 0 xs[0] (by simp)
  have : b = k := by simpa using hk
  subst this
  exact World.block_lt_of_cell? w _ hc
theorem PartsRd.off {w : World} {S : Option Addr} {P : List (Option Addr × Nat × List UInt8)} {b : Nat} (h : PartsRd w S P) (hb : w.heap.size ≤ b) : PartsOff b S P :=
  ⟨fun h0 k e => by have := h.row.lt (by simpa using h0) k e; omega, fun p hp h0 k e => by have := (h.part p hp).1.lt (by simpa using h0) k e; omega⟩
theorem joined_succ {P : List (Option Addr × Nat × List UInt8)} {k : Nat} (h : k < P.length) : joined (P.take (k + 1)) = joined (P.take k) ++ P[k].2.2 := by
  unfold joined; rw [List.take_succ_eq_append_getElem h, List.flatMap_append, List.flatMap_singleton]
theorem joined_le {P : List (Option Addr × Nat × List UInt8)} (k : Nat) : (joined (P.take k)).length ≤ (joined P).length := by
  have : joined P = joined (P.take k) ++ joined (P.drop k) := by simp only [joined, ← List.flatMap_append, List.take_append_drop]
  rw [this, List.length_append]; omega

section
set_option maxHeartbeats 1600000
set_option maxRecDepth 100000
theorem write_any (w : World) (p : Nat) (xs : List UInt8) (S : Option Addr) (cS n : Nat) (P : List (Option Addr × Nat × List UInt8)) (h : HashIs w p xs) (ht : AddsMet w) (hn : P.length = n) (hP : PartsRd w S P) (ho : PartsOff p S P)
    (hl : xs.length + (joined P).length ≤ 140737488350000) (hm : n ≤ 9223372036854775807) :
    Calls Tryd.prog 16 #[.pointer (some ⟨p, 0, none⟩), .slice S n cS] w fun e w' => e = .returned (.int .i64 0) ∧ HashIs w' p (xs ++ joined P) ∧ Mv (fun k => k = p) w w' := by
  have c0 : w.cell? ⟨p, 0, none⟩ = some (.bool true) := by
    obtain ⟨R, hr, _⟩ := h
    rw [hr.cell, hashC_made]
  have hne : p ≠ 0 := by obtain ⟨R, hr, _⟩ := h; exact hr.ne_table ht
  have HN := Lib.hid hn; clear hn
  have HT := Lib.hid ht; clear ht
  go_enter Tryd.func16, Tryd.ntmps16
  go_wp2
  go_loopw [18] (fun i wr => ∃ k : Nat, k ≤ n ∧ i = .int .i64 k ∧ HashIs wr p (xs ++ joined (P.take k)) ∧ Mv (fun k => k = p) w wr) (fun i _ => n - (intOf i).toNat)
  case atStart => exact ⟨0, by omega, rfl, by simpa [joined] using h, Mv.refl _ _⟩
  case round =>
    clear h c0
    obtain ⟨k, hk, rfl, hi, hmv⟩ := hrel
    have ht' := AddsMet.moved HT.out hmv hne
    have hP' := hP.mv ho hmv
    have HT' := Lib.hid ht'; clear ht'
    by_cases hlt : k < n
    · have hkP : k < P.length := by rw [HN.out]; exact hlt
      obtain ⟨g, off, hSe, hc⟩ := hP'.row k (partV P[k]) (by simp [hkP])
      subst hSe
      obtain ⟨hrd, hlc, hcm⟩ := hP'.part P[k] (List.getElem_mem hkP)
      have hoff := ho.part P[k] (List.getElem_mem hkP)
      have hjs := joined_succ hkP
      have hjl := joined_le (P := P) (k + 1)
      rw [hjs, List.length_append] at hjl
      have HJS := Lib.hid hjs; clear hjs
      generalize P[k] = pk at *
      obtain ⟨A, c, ys⟩ := pk
      simp only [partV] at hc hrd hlc hcm hoff HJS hjl
      have hyl : (xs ++ joined (P.take k)).length + ys.length ≤ 140737488355328 := by rw [List.length_append]; omega
      obtain ⟨m, hym⟩ : ∃ m, m = ys.length := ⟨_, rfl⟩
      rw [← hym] at hc hlc hyl
      have HYM := Lib.hid hym; clear hym hjl
      go_wp2_with fail
      refine (add_any wr p (xs ++ joined (P.take k)) ys A c m hi HT'.out HYM.out.symm hrd (fun h0 => hoff (by rw [← HYM.out]; exact h0)) hlc hcm hyl).mono ?_
      rintro e w1 ⟨rfl, hi1, hm1⟩
      have HI1 := Lib.hid hi1; clear hi1
      go_wp2
      go_roundw
      case rel => exact ⟨k + 1, by omega, by go_num, by rw [HJS.out, ← List.append_assoc]; exact HI1.out, hmv.trans hm1 (fun _ _ h => h)⟩
      case measure => simp [intOf]; omega
    · have hkl : P.take k = P := List.take_of_length_le (by have := HN.out; omega)
      rw [hkl] at hi
      clear hkl
      go_wp2
      go_ret
      exact ⟨rfl, hi, hmv⟩
theorem hashSum_any (w : World) (S : Option Addr) (cS n : Nat) (P : List (Option Addr × Nat × List UInt8)) (ht : AddsMet w) (hn : P.length = n) (hP : PartsRd w S P)
    (hl : (joined P).length ≤ 140737488350000) (hm : n ≤ 9223372036854775807) :
    Calls Tryd.prog 10 #[.slice S n cS] w fun e w' => e = .returned (sumV (sha (joined P))) ∧ Below w.heap.size w w' := by
  have HN := Lib.hid hn; clear hn
  have hP0 := hP.below ((Below.refl _ w).alloc (Nat.le_refl _) (.cells (Array.replicate 32 (.int .u8 0)) 25))
  have ht0 := ht.below ((Below.refl _ w).alloc (Nat.le_refl _) (.cells (Array.replicate 32 (.int .u8 0)) 25))
  have hres := heap_alloc_new w (.cells (Array.replicate 32 (.int .u8 0)) 25)
  have hz0 : (w.alloc (.cells (Array.replicate 32 (.int .u8 0)) 25)).heap.size = w.heap.size + 1 := by simp
  have hb0 := (Below.refl _ w).alloc (Nat.le_refl _) (.cells (Array.replicate 32 (.int .u8 0)) 25)
  go_enter Tryd.func10, Tryd.ntmps10
  go_wp2_with fail
  change Calls _ _ _ (w.alloc (.cells (Array.replicate 32 (.int .u8 0)) 25)) _
  generalize w.alloc (.cells (Array.replicate 32 (.int .u8 0)) 25) = w0 at *
  have HRES := Lib.hid hres; clear hres
  have HZ0 := Lib.hid hz0; clear hz0
  have HT0 := Lib.hid ht0; clear ht0 ht
  refine (new_any w0).mono ?_
  rintro e w1 ⟨rfl, hi1, hb1⟩
  rw [HZ0.out] at hi1 ⊢
  have HI1 := Lib.hid hi1; clear hi1
  have hP1 := hP0.below hb1
  have ht1 := HT0.out.below hb1
  have hoff := hP0.off (b := w.heap.size + 1) (by rw [HZ0.out]; exact Nat.le_refl _)
  have hres1 := (hb1.block w.heap.size (by rw [HZ0.out]; omega)).trans HRES.out
  have hb1' := hb0.trans (hb1.mono (by rw [HZ0.out]; omega))
  have hz1 : w.heap.size + 2 ≤ w1.heap.size := by have := HI1.out.lt; omega
  have HRES1 := Lib.hid hres1; clear hres1
  have HT1 := Lib.hid ht1; clear ht1
  clear hb1 hb0 hP0 hP
  go_wp2_with fail
  refine (write_any w1 (w.heap.size + 1) [] S cS n P HI1.out HT1.out HN.out hP1 hoff (by simpa using hl) hm).mono ?_
  rintro e w2 ⟨rfl, hi2, hm2⟩
  rw [List.nil_append] at hi2
  have hne : w.heap.size + 1 ≠ 0 := by obtain ⟨R, hr, _⟩ := HI1.out; exact hr.ne_table HT1.out
  have ht2 := AddsMet.moved HT1.out hm2 hne
  have hb2 : Below w.heap.size w w2 := hb1'.trans (hm2.belowB (by omega) (fun k hk e => by omega))
  have hres2 := (hm2.block w.heap.size (by omega) (by omega)).trans HRES1.out
  have HI2 := Lib.hid hi2; clear hi2
  have HT2 := Lib.hid ht2; clear ht2
  have HR2 := Lib.hid hres2; clear hres2
  clear hne hm2 hP1 hoff hb1'
  go_wp2_with fail
  refine (hsum_any w2 (w.heap.size + 1) (joined P) HI2.out HT2.out hl).mono ?_
  rintro e wa ⟨rfl, hba⟩
  have hz2 : w.heap.size + 1 < w2.heap.size := HI2.out.lt
  have hresa := (hba.block w.heap.size (by omega)).trans HR2.out
  have hbb := hb2.trans (hba.mono (by omega))
  have HRA := Lib.hid hresa; clear hresa
  obtain ⟨cm, hcm⟩ : ∃ cm, cm = (sha (joined P)).map Bv := ⟨_, rfl⟩
  have hcn : cm.length = 32 := by rw [hcm, List.length_map, sha_length]
  have hone : ∀ v ∈ cm, v.oneCell' = true := by rw [hcm]; intro v hv; obtain ⟨x, _, rfl⟩ := List.mem_map.1 hv; rfl
  unfold sumV
  rw [← hcm]
  have HCN := Lib.hid hcn; clear hcn
  have HON2 := Lib.hid hone; clear hone
  have HCM := Lib.hid hcm; clear hcm
  go_wp2_with (first
    | (refine wpList_store_agg (o := ⟨none, _, _, _, _, _⟩) ?_ 25 (.tmp 2) (.tmp 9) ?_ w.heap.size 0 cm ?_ ?_ 25 (Array.replicate 32 (.int .u8 0)) HRA.out ?_ ?_ HON2.out ?_; rfl; rfl; rfl; rfl; (rw [HCN.out]; kernel_rfl); (rw [HCN.out]; decide); intro wb hgb hmb hsb)
    | fail)
  have hg9 : wb.heap[w.heap.size]? = some (.cells cm.toArray 25 (0, 0)) := by
    rw [hgb]
    congr 2
    simp [spl, splice, HCN.out]
  have HG9 := Lib.hid hg9; clear hg9 hgb hsb
  exact bodyPost_cell rfl w.heap.size 25 cm.toArray rfl HG9.out (by kernel_rfl) (by rw [List.size_toArray, HCN.out]; kernel_rfl) rfl ⟨by rw [HCM.out]; rfl, hbb.trans (hmb.belowB (by have := hbb.size; omega) (fun k hk e => by omega))⟩
end
end
section
set_option linter.unusedVariables false
set_option linter.unusedSimpArgs false
open Go.RowKit

/-- One part. -/
theorem parts_one (w : World) (A : Option Addr) (ca n : Nat) (xs : List UInt8) (hn : xs.length = n) (hx : Rd w A (xs.map Bv)) (hc : n ≤ ca) (hm : ca ≤ 9223372036854775807) :
    PartsRd (w.alloc (.cells #[.slice A n ca] 28)) (some ⟨w.heap.size, 0, none⟩) [(A, ca, xs)] := by
  subst hn
  refine ⟨rd_row' w [partV (A, ca, xs)] _, fun p hp => ?_⟩
  simp only [List.mem_cons, List.not_mem_nil, or_false] at hp
  subst hp
  exact ⟨hx.alloc _, hc, hm⟩
theorem joined_one (A : Option Addr) (ca : Nat) (xs : List UInt8) : joined [(A, ca, xs)] = xs := by simp [joined]

/-- Parts that stand in a row of the call's own. -/
theorem parts_new (w : World) (P : List (Option Addr × Nat × List UInt8)) (h : ∀ p ∈ P, Rd w p.1 (p.2.2.map Bv) ∧ p.2.2.length ≤ p.2.1 ∧ p.2.1 ≤ 9223372036854775807) :
    PartsRd (w.alloc (.cells (P.map partV).toArray 28)) (some ⟨w.heap.size, 0, none⟩) P := ⟨rd_row' w _ _, fun p hp => ⟨(h p hp).1.alloc _, (h p hp).2⟩⟩
theorem hashSum_one (w : World) (A : Option Addr) (ca n : Nat) (xs : List UInt8) (hn : xs.length = n) (hx : Rd w A (xs.map Bv)) (hc : n ≤ ca) (hm : ca ≤ 9223372036854775807) (hl : n ≤ 100000000) (ht : AddsMet w) (l : List UInt8) (hs : sha xs = l) :
    Calls Tryd.prog 10 #[.slice (some ⟨w.heap.size, 0, none⟩) 1 1] (w.alloc (.cells #[.slice A n ca] 28)) fun e w' => e = .returned (sumV l) ∧ Below w.heap.size w w' := by
  have hb := (Below.refl _ w).alloc (Nat.le_refl _) (.cells #[.slice A n ca] 28)
  refine (hashSum_any _ (some ⟨w.heap.size, 0, none⟩) 1 1 [(A, ca, xs)] (ht.below hb) rfl (parts_one w A ca n xs hn hx hc hm) (by rw [joined_one, hn]; omega) (by decide)).mono ?_
  rintro e w' ⟨rfl, hb2⟩
  rw [joined_one, hs]
  exact ⟨rfl, hb.trans (hb2.mono (by simp))⟩
/-- The sum of parts that are laid beside one another. -/
theorem hashSum_parts (w : World) (P : List (Option Addr × Nat × List UInt8)) (cells : Array Value) (n : Nat) (l : List UInt8) (hc : cells = (P.map partV).toArray) (hn : P.length = n) (hl : joined P = l)
    (h : ∀ p ∈ P, Rd w p.1 (p.2.2.map Bv) ∧ p.2.2.length ≤ p.2.1 ∧ p.2.1 ≤ 9223372036854775807) (hll : l.length ≤ 100000000) (hnn : n ≤ 1000) (ht : AddsMet w) :
    Calls Tryd.prog 10 #[.slice (some ⟨w.heap.size, 0, none⟩) n n] (w.alloc (.cells cells 28)) fun e w' => e = .returned (sumV (sha l)) ∧ Below w.heap.size w w' := by
  subst hc hl
  have hb := (Below.refl _ w).alloc (Nat.le_refl _) (.cells (P.map partV).toArray 28)
  refine (hashSum_any _ (some ⟨w.heap.size, 0, none⟩) n n P (ht.below hb) hn (parts_new w P h) (by omega) (by omega)).mono ?_
  rintro e w' ⟨rfl, hb2⟩
  exact ⟨rfl, hb.trans (hb2.mono (by simp))⟩
end
section
set_option linter.unusedVariables false
set_option linter.unusedSimpArgs false
open Go.RowKit

/-- The sum of abc. -/
def abcL : List UInt8 := [186, 120, 22, 191, 143, 1, 207, 234, 65, 65, 64, 222, 93, 174, 34, 35, 176, 3, 97, 163, 150, 23, 122, 156, 180, 16, 255, 97, 242, 0, 21, 173]
theorem abc_sha : sha [97, 98, 99] = abcL := by decide +kernel
theorem abc_hex : abcL.flatMap hexB = [98, 97, 55, 56, 49, 54, 98, 102, 56, 102, 48, 49, 99, 102, 101, 97, 52, 49, 52, 49, 52, 48, 100, 101, 53, 100, 97, 101, 50, 50, 50, 51, 98, 48, 48, 51, 54, 49, 97, 51, 57, 54, 49, 55, 55, 97, 57, 99, 98, 52, 49, 48, 102, 102, 54, 49, 102, 50, 48, 48, 49, 53, 97, 100] := by decide +kernel
theorem two_arm : armS 6 armL [251, 255] = [45, 95, 56] := by decide +kernel
theorem none_xx : xx [] = 17241709254077376921 := by decide +kernel
attribute [local go_sem ↓] load_is
attribute [local go_sem] run_sumLoadV
section
set_option maxHeartbeats 1600000
set_option maxRecDepth 100000
theorem write_lits (w : World) (p : Nat) (hi : HashIs w p []) (ht : AddsMet w) :
    Calls Tryd.prog 16 #[.pointer (some ⟨p, 0, none⟩), .slice (some ⟨w.heap.size + 1 + 1, 0, none⟩) 2 2] (((w.alloc (.cells #[.int .u8 97] 5 (1, 2))).alloc (.cells #[.int .u8 98, .int .u8 99] 5 (2, 3))).alloc (.cells #[.slice (some ⟨w.heap.size, 0, none⟩) 1 1, .slice (some ⟨w.heap.size + 1, 0, none⟩) 2 2] 28))
      fun e w' => e = .returned (.int .i64 0) ∧ HashIs w' p [97, 98, 99] ∧ Mv (fun k => k = p) w w' := by
  have hpl := hi.lt
  have hb := (((Below.refl _ w).alloc (Nat.le_refl _) (.cells ([97].map Bv).toArray 5 (1, 2))).alloc (by simp) (.cells ([98, 99].map Bv).toArray 5 (2, 3))).alloc (by simp; omega) (.cells #[.slice (some ⟨w.heap.size, 0, none⟩) 1 1, .slice (some ⟨w.heap.size + 1, 0, none⟩) 2 2] 28)
  have r1 := ((rd_mark w ([97].map Bv) 5 (1, 2)).alloc (.cells ([98, 99].map Bv).toArray 5 (2, 3))).alloc (.cells #[.slice (some ⟨w.heap.size, 0, none⟩) 1 1, .slice (some ⟨w.heap.size + 1, 0, none⟩) 2 2] 28)
  have r2 := (rd_mark (w.alloc (.cells ([97].map Bv).toArray 5 (1, 2))) ([98, 99].map Bv) 5 (2, 3)).alloc (.cells #[.slice (some ⟨w.heap.size, 0, none⟩) 1 1, .slice (some ⟨w.heap.size + 1, 0, none⟩) 2 2] 28)
  have r3 := rd_row ((w.alloc (.cells ([97].map Bv).toArray 5 (1, 2))).alloc (.cells ([98, 99].map Bv).toArray 5 (2, 3))) [.slice (some ⟨w.heap.size, 0, none⟩) 1 1, .slice (some ⟨w.heap.size + 1, 0, none⟩) 2 2] 28
  rw [World.size_alloc] at r2
  rw [World.size_alloc, World.size_alloc] at r3
  have hP : PartsRd (((w.alloc (.cells ([97].map Bv).toArray 5 (1, 2))).alloc (.cells ([98, 99].map Bv).toArray 5 (2, 3))).alloc (.cells #[.slice (some ⟨w.heap.size, 0, none⟩) 1 1, .slice (some ⟨w.heap.size + 1, 0, none⟩) 2 2] 28))
      (some ⟨w.heap.size + 1 + 1, 0, none⟩) [(some ⟨w.heap.size, 0, none⟩, 1, [97]), (some ⟨w.heap.size + 1, 0, none⟩, 2, [98, 99])] := by
    refine ⟨r3, fun q hq => ?_⟩
    simp only [List.mem_cons, List.not_mem_nil, or_false] at hq
    rcases hq with rfl | rfl
    · exact ⟨r1, Nat.le_refl 1, show (1 : Nat) ≤ 9223372036854775807 from by decide⟩
    · exact ⟨r2, Nat.le_refl 2, show (2 : Nat) ≤ 9223372036854775807 from by decide⟩
  have hO : PartsOff p (some ⟨w.heap.size + 1 + 1, 0, none⟩) [(some ⟨w.heap.size, 0, none⟩, 1, [97]), (some ⟨w.heap.size + 1, 0, none⟩, 2, [98, 99])] := by
    refine ⟨fun _ k e => by simp at e; omega, fun q hq _ k e => ?_⟩
    simp only [List.mem_cons, List.not_mem_nil, or_false] at hq
    rcases hq with rfl | rfl <;> simp at e <;> omega
  refine (write_any _ p [] _ 2 2 _ (hi.below hb) (ht.below hb) rfl hP hO (by simp [joined]) (by decide)).mono ?_
  rintro e w' ⟨rfl, h1, h2⟩
  refine ⟨rfl, by simpa [joined] using h1, (Mv.of_below hb _).trans h2 (fun _ _ h => h)⟩
theorem rhex_lit (w : World) (b : Nat) (h : w.heap[b]? = some (.cells (abcL.map Bv).toArray 25 (0, 0))) :
    Calls Tryd.prog 23 #[.slice (some ⟨b, 0, none⟩) 32 32] w fun e w' => e = .returned (.string ⟨#[98, 97, 55, 56, 49, 54, 98, 102, 56, 102, 48, 49, 99, 102, 101, 97, 52, 49, 52, 49, 52, 48, 100, 101, 53, 100, 97, 101, 50, 50, 50, 51, 98, 48, 48, 51, 54, 49, 97, 51, 57, 54, 49, 55, 55, 97, 57, 99, 98, 52, 49, 48, 102, 102, 54, 49, 102, 50, 48, 48, 49, 53, 97, 100]⟩) ∧ ∃ m, w' = w.drewN m := by
  refine (rhex_any w (some ⟨b, 0, none⟩) 32 32 abcL rfl ?_ (by decide)).mono ?_
  · intro k v hv
    refine ⟨b, 0, rfl, ?_⟩
    rw [cell_blk h, Nat.zero_add]
    simpa using hv
  · rintro e w' ⟨rfl, hm⟩
    rw [abc_hex]
    exact ⟨rfl, hm⟩
theorem sum_lit (w : World) (p : Nat) (cm : List Value) (hc : cm = abcL.map Bv) (h : HashIs w p [97, 98, 99]) (ht : AddsMet w) :
    Calls Tryd.prog 17 #[.pointer (some ⟨p, 0, none⟩)] w fun e w' => e = .returned (.agg cm.toArray) ∧ Below w.heap.size w w' := by
  subst hc
  refine (hsum_any w p [97, 98, 99] h ht (by decide)).mono ?_
  rintro e w' ⟨rfl, hb⟩
  rw [abc_sha]
  exact ⟨rfl, hb⟩
theorem armor_lit (w : World) : Calls Tryd.prog 24 #[.slice (some ⟨w.heap.size, 0, none⟩) 2 2] (w.alloc (.cells #[.int .u8 251, .int .u8 255] 5)) fun e w' => e = .returned (.string ⟨#[45, 95, 56]⟩) ∧ Below w.heap.size w w' := by
  refine (armor_any _ (some ⟨w.heap.size, 0, none⟩) 2 2 [251, 255] rfl (rd_lit w [251, 255] 5) (by decide)).mono ?_
  rintro e w' ⟨rfl, hb⟩
  rw [two_arm]
  exact ⟨rfl, ((Below.refl _ w).alloc (Nat.le_refl _) _).trans (hb.mono (by simp))⟩
theorem xx_lit (w : World) : Calls Tryd.prog 21 #[.slice none 0 0] w fun e w' => e = .returned (.int .u64 17241709254077376921) ∧ Below w.heap.size w w' := by
  refine (xx_any w none 0 0 [] rfl (Rd.nil _ _) (Nat.le_refl _) (by decide)).mono ?_
  rintro e w' ⟨rfl, hb⟩
  rw [none_xx]
  exact ⟨rfl, hb⟩
theorem live_any (w : World) (ht : AddsMet w) : Calls Tryd.prog 8 #[] w fun e w' => e = .returned (.bool true) ∧ Below w.heap.size w w' := by
  have HT := Lib.hid ht; clear ht
  have hcv := lit_bytes w #[.int .u8 97, .int .u8 98, .int .u8 99] 3 3
  go_enter Tryd.func8, Tryd.ntmps8
  go_wp2_with fail
  clear hcv
  have hb0 := (Below.refl _ w).alloc (Nat.le_refl _) (.cells ([97, 98, 99].map Bv).toArray 5 (3, 4))
  have h1 := hashSum_one (w.alloc (.cells ([97, 98, 99].map Bv).toArray 5 (3, 4))) (some ⟨w.heap.size, 0, none⟩) 3 3 [97, 98, 99] rfl (rd_mark w ([97, 98, 99].map Bv) _ _) (by decide) (by decide) (by decide) (HT.out.below hb0) abcL abc_sha
  rw [World.size_alloc] at h1
  refine h1.mono ?_
  clear h1
  rintro e w1 ⟨rfl, hb1⟩
  have hb1' := hb0.trans (hb1.mono (by simp))
  have HT1 := Lib.hid (HT.out.below hb1')
  have hs1 := hb1'.size
  clear hb0 hb1 HT
  obtain ⟨cm, hcm⟩ : ∃ cm, cm = abcL.map Bv := ⟨_, rfl⟩
  have hcn : cm.length = 32 := by rw [hcm]; rfl
  have hone : ∀ v ∈ cm, v.oneCell' = true := by rw [hcm]; intro v hv; obtain ⟨x, _, rfl⟩ := List.mem_map.1 hv; rfl
  unfold sumV
  rw [← hcm]
  have HCM := Lib.hid hcm; clear hcm
  have HCN := Lib.hid hcn; clear hcn
  have HON := Lib.hid hone; clear hone
  go_wp2_with (first
    | (refine wpList_store_agg (o := ⟨none, _, _, _, _, _⟩) ?_ 25 (.tmp 1) (.tmp 6) ?_ w1.heap.size 0 cm ?_ ?_ 25 _ (heap_alloc_new w1 _) ?_ ?_ HON.out ?_; rfl; rfl; rfl; rfl; (rw [HCN.out]; kernel_rfl); (rw [HCN.out]; decide); intro w2 hg2 hm2 hs2)
    | fail)
  have hg2' : w2.heap[w1.heap.size]? = some (.cells (abcL.map Bv).toArray 25 (0, 0)) := by
    rw [hg2, ← HCM.out]
    congr 2
    simp [spl, splice, HCN.out]
  have hb2 : Below w.heap.size w w2 := (hb1'.alloc hs1 _).trans (hm2.belowB (by simp; omega) (fun k hk e => by omega))
  have ht2 : AddsMet w2 := (HT1.out.below ((Below.refl _ w1).alloc (Nat.le_refl _) _)).mv hm2 (by have := World.block_lt_of_cell? w1 _ (HT1.out 0 (by decide)); simp only at this; omega)
  have hs2' : w2.heap.size = w1.heap.size + 1 := by rw [hs2]; simp
  have HG2 := Lib.hid hg2'; clear hg2' hg2
  have HT2 := Lib.hid ht2; clear ht2 HT1
  have HS2 := Lib.hid hs2'; clear hs2' hs2
  clear hm2 hb1'
  refine (new_any w2).mono ?_
  rintro e w3 ⟨rfl, hi3, hb3⟩
  have HI3 := Lib.hid hi3; clear hi3
  have HG3 := Lib.hid ((hb3.block w1.heap.size (by rw [HS2.out]; omega)).trans HG2.out); clear HG2
  have HT3 := Lib.hid (HT2.out.below hb3)
  have hal := World.block_lt_of_cell? w2 _ (HT2.out 0 (by decide)); clear HT2
  have hb3' := hb2.trans (hb3.mono hb2.size)
  have hz3 : w2.heap.size < w3.heap.size := HI3.out.lt
  have hz3' : w1.heap.size < w2.heap.size := by rw [HS2.out]; omega
  clear hb3 hb2
  have hcv1 := lit_bytes w3 #[.int .u8 97] 1 1
  have hcv2 := lit_bytes_at (w3.alloc (.cells #[.int .u8 97] 5 (1, 2))) #[.int .u8 98, .int .u8 99] 2 2 (w3.heap.size + 1) (by simp)
  go_wp2_with fail
  clear hcv1 hcv2
  refine (write_lits w3 w2.heap.size HI3.out HT3.out).mono ?_
  rintro e w4 ⟨rfl, hi4, hm4⟩
  have HI4 := Lib.hid hi4; clear hi4
  have hb4 : Below w.heap.size w w4 := hb3'.trans (hm4.belowB hb3'.size (fun k hk e => by omega))
  have HG4 := Lib.hid ((hm4.block w1.heap.size (by omega) (by omega)).trans HG3.out)
  have HT4 := Lib.hid (HT3.out.mv hm4 (by omega))
  clear HG3 HT3 HI3 hm4 hb3'
  go_wp2
  have heq : ∀ u : World, (Op.equalIn 10000 25 (.agg cm.toArray) (.agg cm.toArray)).run Tryd.prog u = .ok true u := fun u => by
    rw [HCM.out, eq_bytes u 25 32 abcL abcL Tryd.underlying25 rfl rfl]; simp
  have hgd : Tryd.prog.eqGuardType Tryd.prog.depth 25 = false := by kernel_rfl
  have hz4 : w1.heap.size < w4.heap.size := blk_lt HG4.out
  have hra : readAgg w4.drew w1.heap.size 32 = some cm.toArray := readAgg_of (w := w4.drew) (by rw [HCM.out]; exact HG4.out) (by rw [List.size_toArray, HCN.out])
  have hrb : ∀ m, readAgg (w4.drewN m) w1.heap.size 32 = some cm.toArray := fun m => readAgg_of (w := w4.drewN m) (by rw [HCM.out]; exact HG4.out) (by rw [List.size_toArray, HCN.out])
  have hzn : cm.toArray.size = 32 := by rw [List.size_toArray, HCN.out]
  have HZN := Lib.hid hzn; clear hzn
  go_region_with (first
    | ((go_at_call 23; refine (rhex_lit w4.drew w1.heap.size HG4.out).mono ?_; rintro e w5 ⟨rfl, m5, rfl⟩))
    | ((go_at_call 17; refine (sum_lit (w4.drewN (1 + m5)) w2.heap.size cm HCM.out HI4.out HT4.out).mono ?_; rintro e w6 ⟨rfl, hb6⟩; have hr6 : readAgg w6 w1.heap.size 32 = some cm.toArray := readAgg_of (w := w6) ((hb6.block _ hz4).trans (by rw [HCM.out]; exact HG4.out)) HZN.out; have HB6 := Lib.hid hb6; clear hb6))
    | ((go_at_call 24; refine (armor_lit w6).mono ?_; rintro e w7 ⟨rfl, hb7⟩; have HB7 := Lib.hid hb7; clear hb7))
    | ((go_at_call 21; refine (xx_lit w7).mono ?_; rintro e w8 ⟨rfl, hb8⟩; have HB8 := Lib.hid hb8; clear hb8)))
  all_goals
    go_wp2
    go_ret
    have b6 : Below w.heap.size w w6 := hb4.trans ((show Below w4.heap.size w4 w6 from ⟨HB6.out.os, HB6.out.tape, HB6.out.output, HB6.out.size, HB6.out.block⟩).mono hb4.size)
    have b7 := b6.trans (HB7.out.mono b6.size)
    exact ⟨rfl, b7.trans (HB8.out.mono b7.size)⟩
end
end
section
set_option linter.unusedVariables false
set_option linter.unusedSimpArgs false
open Go.ChangeShapes Go.WideShapes Go.ChangeAt Go.RowKit

theorem tabGlobal : Tryd.prog.globalNamed "manometer/hash.adds" = some 0 := by kernel_rfl
theorem tabType : (Tryd.prog.globals[0]?).map (·.type) = some 70 := by kernel_rfl
theorem tabCells : Tryd.prog.cellsOf 70 = 64 := by kernel_rfl
theorem cellsU32 : Tryd.prog.cellsOf 48 = 1 := by kernel_rfl
theorem kL_length : kL.length = 64 := by decide
theorem table {W : World} (h : laidMetH Tryd.prog [("manometer/hash.adds", Rows.laid_manometer_hash_adds)] W) : AddsMet W := fun i hi => by
  have t : Lib.TabIs Tryd.prog W "manometer/hash.adds" .u32 (kL.map Int.ofNat) := Lib.tabIs_of_head (rest := []) tabGlobal tabType Tryd.underlying70 Tryd.underlying48 cellsU32 tabCells h
  have c := t.cell tabGlobal i (by rw [List.length_map, kL_length]; exact hi)
  rw [c]
  congr 2
  rw [List.getD_eq_getElem?_getD, List.getD_eq_getElem?_getD, List.getElem?_map]
  cases kL[i]? <;> rfl

/-- A world for the witness: the settled one, the table holding what its initialiser lays. -/
noncomputable def laidWorld (os : Os) : World :=
  { World.holding Tryd.prog os ⟨#[], #[], []⟩ with heap := (World.holding Tryd.prog os ⟨#[], #[], []⟩).heap.modify 0 fun
      | .cells _ t frozen => .cells #[.int .u32 1116352408, .int .u32 1899447441, .int .u32 3049323471, .int .u32 3921009573, .int .u32 961987163, .int .u32 1508970993, .int .u32 2453635748, .int .u32 2870763221, .int .u32 3624381080, .int .u32 310598401, .int .u32 607225278, .int .u32 1426881987, .int .u32 1925078388, .int .u32 2162078206, .int .u32 2614888103, .int .u32 3248222580, .int .u32 3835390401, .int .u32 4022224774, .int .u32 264347078, .int .u32 604807628, .int .u32 770255983, .int .u32 1249150122, .int .u32 1555081692, .int .u32 1996064986, .int .u32 2554220882, .int .u32 2821834349, .int .u32 2952996808, .int .u32 3210313671, .int .u32 3336571891, .int .u32 3584528711, .int .u32 113926993, .int .u32 338241895, .int .u32 666307205, .int .u32 773529912, .int .u32 1294757372, .int .u32 1396182291, .int .u32 1695183700, .int .u32 1986661051, .int .u32 2177026350, .int .u32 2456956037, .int .u32 2730485921, .int .u32 2820302411, .int .u32 3259730800, .int .u32 3345764771, .int .u32 3516065817, .int .u32 3600352804, .int .u32 4094571909, .int .u32 275423344, .int .u32 430227734, .int .u32 506948616, .int .u32 659060556, .int .u32 883997877, .int .u32 958139571, .int .u32 1322822218, .int .u32 1537002063, .int .u32 1747873779, .int .u32 1955562222, .int .u32 2024104815, .int .u32 2227730452, .int .u32 2361852424, .int .u32 2428436474, .int .u32 2756734187, .int .u32 3204031479, .int .u32 3329325298] t frozen
      | o => o }
end
section
set_option linter.unusedVariables false
set_option linter.unusedSimpArgs false
open Go.RowKit

/-- Few texts, and short ones. -/
def shortB (P : List (Option Addr × Nat × List UInt8)) : Bool := P.all (fun p => decide (p.2.2.length ≤ 2000)) && decide (P.length ≤ 30)
theorem shortB_spec {P : List (Option Addr × Nat × List UInt8)} (h : shortB P = true) : (∀ p ∈ P, p.2.2.length ≤ 2000) ∧ P.length ≤ 30 := by
  unfold shortB at h
  simpa using h
section
set_option maxHeartbeats 800000
set_option maxRecDepth 100000
theorem short_any (w : World) (S : Option Addr) (cS n : Nat) (P : List (Option Addr × Nat × List UInt8)) (hn : P.length = n) (hS : Rd w S (P.map partV)) (hm : n ≤ 9223372036854775807) :
    Calls Tryd.prog 9 #[.slice S n cS] w fun e w' => e = .returned (.bool (shortB P)) ∧ w = w' := by
  have HN := Lib.hid hn; clear hn
  go_enter Tryd.func9, Tryd.ntmps9
  go_wp2
  go_loopw [7] (fun i wr => ∃ k : Nat, k ≤ n ∧ i = .int .i64 k ∧ (∀ p ∈ P.take k, p.2.2.length ≤ 2000) ∧ wr = w) (fun i _ => n - (intOf i).toNat)
  case atStart => exact ⟨0, by omega, rfl, fun p hp => by simp at hp, rfl⟩
  case round =>
    obtain ⟨k, hk, rfl, hall, rfl⟩ := hrel
    have HA := Lib.hid hall; clear hall
    by_cases hlt : k < n
    · have hkP : k < P.length := by rw [HN.out]; exact hlt
      obtain ⟨g, off, hSe, hc⟩ := hS k (partV P[k]) (by simp [hkP])
      subst hSe
      unfold partV at hc
      by_cases hb : P[k].2.2.length ≤ 2000
      · have hnx : ∀ p ∈ P.take (k + 1), p.2.2.length ≤ 2000 := by
          intro p hp
          rw [List.take_succ_eq_append_getElem hkP] at hp
          rcases List.mem_append.1 hp with h | h
          · exact HA.out p h
          · rw [List.mem_singleton.1 h]; exact hb
        have HNX := Lib.hid hnx; clear hnx
        generalize P[k].2.2.length = m at *
        go_wp2
        go_roundw
        case rel => exact ⟨k + 1, by omega, by go_num, HNX.out, by first | rfl | trivial⟩
        case measure => simp [intOf]; omega
      · have hno : shortB P = false := by
          unfold shortB
          rw [Bool.and_eq_false_iff]
          left
          rw [List.all_eq_false]
          exact ⟨P[k], List.getElem_mem hkP, by simp; omega⟩
        have HNO := Lib.hid hno; clear hno
        generalize P[k].2.2.length = m at *
        go_wp2
        go_ret
        exact ⟨by rw [HNO.out]; rfl, rfl⟩
    · have hyes : shortB P = decide (n ≤ 30) := by
        unfold shortB
        have h1 : P.all (fun p => decide (p.2.2.length ≤ 2000)) = true := by
          rw [List.all_eq_true]
          intro p hp
          have h2 := HA.out p (by rw [List.take_of_length_le (by rw [HN.out]; omega)]; exact hp)
          simpa using h2
        rw [h1, Bool.true_and, HN.out]
      by_cases h30 : n ≤ 30
      · rw [decide_eq_true h30] at hyes
        have hdec : decide ((n : Int) ≤ 30) = true := by simp; omega
        have HY := Lib.hid hyes; clear hyes
        go_wp2
        go_ret
        exact ⟨by rw [HY.out]; rfl, rfl⟩
      · rw [decide_eq_false h30] at hyes
        have hdec : decide ((n : Int) ≤ 30) = false := by simp; omega
        have HY := Lib.hid hyes; clear hyes
        go_wp2
        go_ret
        exact ⟨by rw [HY.out]; rfl, rfl⟩
end
end
section
set_option linter.unusedVariables false
set_option linter.unusedSimpArgs false
open Go.RowKit

theorem RowsRd.parts {w : World} {S : Option Addr} {P : List (Option Addr × Nat × List UInt8)} (h : RowsRd w S P) : PartsRd w S P :=
  ⟨h.1, fun p hp => ⟨(h.2 p hp).1, (h.2 p hp).2.1, by have := (h.2 p hp).2.2; unfold maxLen at this; omega⟩⟩
end
section
set_option linter.unusedVariables false
set_option linter.unusedSimpArgs false
open Go.RowKit

/-- Each byte xored with c. -/
def maskL (K : List UInt8) (c : UInt8) : List UInt8 := K.map fun b => b ^^^ c
def maskK (K : List UInt8) (c : UInt8) (k : Nat) : List UInt8 := maskL (K.take k) c ++ K.drop k
theorem maskL_length (K : List UInt8) (c : UInt8) : (maskL K c).length = K.length := by simp [maskL]
theorem maskK_zero (K : List UInt8) (c : UInt8) : maskK K c 0 = K := by simp [maskK, maskL]
theorem maskK_full (K : List UInt8) (c : UInt8) : maskK K c K.length = maskL K c := by simp [maskK]
theorem maskK_get {K : List UInt8} {c : UInt8} {k : Nat} (h : k < K.length) : (maskK K c k)[k]? = some K[k] := by
  unfold maskK
  have hl : (maskL (K.take k) c).length = k := by rw [maskL_length, List.length_take]; omega
  rw [List.getElem?_append_right (by omega), hl, Nat.sub_self, List.getElem?_drop]
  simp [h]
theorem maskK_set {K : List UInt8} {c : UInt8} {k : Nat} (h : k < K.length) : (maskK K c k).set k (K[k] ^^^ c) = maskK K c (k + 1) := by
  unfold maskK
  have hl : (maskL (K.take k) c).length = k := by rw [maskL_length, List.length_take]; omega
  rw [List.set_append, if_neg (by omega), hl, Nat.sub_self, drop_cons h, List.set_cons_zero, List.take_succ_eq_append_getElem h]
  unfold maskL
  rw [List.map_append, List.map_singleton, List.append_assoc]
  rfl
theorem u8_xor (x y : UInt8) : bits .xor .u8 (x.toNat : Int) (y.toNat : Int) = ((x ^^^ y).toNat : Int) := by
  rw [u8_xor_nat _ _ x.toNat_lt y.toNat_lt, UInt8.toNat_xor]
/-- A whole block of bytes. -/
def Blk (w : World) (b : Nat) (t : TypeId) (l : List UInt8) : Prop := w.heap[b]? = some (.cells (l.map Bv).toArray t (0, 0))
theorem Blk.block {w w' : World} {b : Nat} {t : TypeId} {l : List UInt8} (h : Blk w b t l) (hb : w'.heap[b]? = w.heap[b]?) : Blk w' b t l := hb.trans h
theorem Blk.set {w : World} {b k : Nat} {t : TypeId} {l : List UInt8} (h : Blk w b t l) (y : UInt8) : Blk (w.setCell ⟨b, k, none⟩ (.int .u8 (y.toNat : Int))) b t (l.set k y) := by
  unfold Blk
  rw [set_blk h]
  simp [Bv, List.map_set]
theorem Blk.cell {w : World} {b k : Nat} {t : TypeId} {l : List UInt8} (h : Blk w b t l) : w.cell? ⟨b, k, none⟩ = (l.map Bv)[k]? := by rw [cell_blk h]; simp
theorem Blk.rd {w : World} {b : Nat} {t : TypeId} {l : List UInt8} (h : Blk w b t l) : Rd w (some ⟨b, 0, none⟩) (l.map Bv) := fun k v hv => ⟨b, 0, rfl, by rw [Nat.zero_add, h.cell]; exact hv⟩
theorem Blk.lt {w : World} {b : Nat} {t : TypeId} {l : List UInt8} (h : Blk w b t l) : b < w.heap.size := blk_lt h
theorem bytes_one (l : List UInt8) : ∀ v ∈ l.map Bv, v.oneCell' = true := by intro v hv; obtain ⟨x, _, rfl⟩ := List.mem_map.1 hv; rfl

section
set_option maxHeartbeats 1600000
set_option maxRecDepth 100000
theorem masked_any (w : World) (K : List UInt8) (c : UInt8) (x : Int) (cl : List Value) (hc : cl = K.map Bv) (hx : x = (c.toNat : Int)) (hK : K.length = 64) :
    Calls Tryd.prog 31 #[.agg cl.toArray, .int .u8 x] w fun e w' => e = .returned (.agg ((maskL K c).map Bv).toArray) ∧ Below w.heap.size w w' := by
  subst hx
  have hcl : cl.length = 64 := by rw [hc, List.length_map, hK]
  have HC := Lib.hid hc; clear hc
  have HK := Lib.hid hK; clear hK
  have HCL := Lib.hid hcl; clear hcl
  have hc8 := c.toNat_lt
  go_enter Tryd.func31, Tryd.ntmps31
  go_wp2
  go_loopw [6] (fun i wr => ∃ k : Nat, k ≤ 64 ∧ i = .int .i64 k ∧ Blk wr w.heap.size 51 (maskK K c k) ∧ Blk wr (w.heap.size + 1) 51 (List.replicate 64 0) ∧ Below w.heap.size w wr) (fun i _ => 64 - (intOf i).toNat)
  case atStart => exact ⟨0, by omega, rfl, by rw [maskK_zero]; unfold Blk; rw [← HC.out]; exact (heap_alloc_old _ _ (by simp)).trans (heap_alloc_new w _), heap_alloc_new2 w _ _, ((Below.refl _ w).alloc (Nat.le_refl _) _).alloc (by simp) _⟩
  case round =>
    obtain ⟨k, hk, rfl, hB, hZ, hb⟩ := hrel
    by_cases hlt : k < 64
    · have hkK : k < K.length := by rw [HK.out]; exact hlt
      have hck : wr.cell? ⟨w.heap.size, k, none⟩ = some (.int .u8 (K[k].toNat : Int)) := by
        rw [hB.cell, List.getElem?_map, maskK_get hkK]; rfl
      have hfk := free_blk hB k
      have hxo := u8_xor K[k] c
      have hst := maskK_set (c := c) hkK
      have HB := Lib.hid hB; clear hB
      have HZ := Lib.hid hZ; clear hZ
      have HST := Lib.hid hst; clear hst
      generalize K[k] = y at *
      go_wp2
      go_roundw
      case rel => exact ⟨k + 1, by omega, by go_num, by have h9 := HB.out.set (k := k) (y ^^^ c); rw [UInt8.toNat_xor] at h9; rw [← HST.out]; exact h9, HZ.out.block (heap_setCell_other _ _ _ _ (by simp)), hb.setCell (Nat.le_refl _) _⟩
      case measure => simp [intOf]; omega
    · have h8 : k = 64 := by omega
      rw [h8, ← HK.out, maskK_full] at hB
      clear h8
      obtain ⟨cm, hcm⟩ : ∃ cm, cm = (maskL K c).map Bv := ⟨_, rfl⟩
      have hcn : cm.length = 64 := by rw [hcm, List.length_map, maskL_length, HK.out]
      have hone : ∀ v ∈ cm, v.oneCell' = true := by rw [hcm]; exact bytes_one _
      unfold Blk at hB
      rw [← hcm] at hB
      have HCM := Lib.hid hcm; clear hcm
      have HCN := Lib.hid hcn; clear hcn
      have HON := Lib.hid hone; clear hone
      have HB := Lib.hid hB; clear hB
      have HZ := Lib.hid hZ; clear hZ
      go_wp2_with (first
        | (refine wpList_load_agg (o := ⟨some 16, _, _, _, _, _⟩) ?_ 51 (.tmp 2) ?_ w.heap.size 0 ?_ cm ?_ ?_ ?_ ?_; rfl; rfl; rfl; kernel_rfl; (rw [HCN.out]; kernel_rfl); (intro i v hv; rw [cell_blk HB.out, Nat.zero_add]; simpa using hv))
        | (refine wpList_store_agg (o := ⟨none, _, _, _, _, _⟩) ?_ 51 (.tmp 4) (.tmp 16) ?_ (w.heap.size + 1) 0 cm ?_ ?_ 51 _ HZ.out ?_ ?_ HON.out ?_; rfl; rfl; rfl; rfl; (rw [HCN.out]; kernel_rfl); (rw [HCN.out]; decide); intro w7 hg7 hm7 hs7)
        | fail)
      have hg8 : w7.heap[w.heap.size + 1]? = some (.cells cm.toArray 51 (0, 0)) := by
        rw [hg7]
        congr 2
        simp [spl, splice, HCN.out, List.drop_eq_nil_of_le]
      have HG8 := Lib.hid hg8; clear hg8 hg7 hs7
      exact bodyPost_cell rfl (w.heap.size + 1) 51 cm.toArray rfl HG8.out (by kernel_rfl) (by rw [List.size_toArray, HCN.out]; kernel_rfl) rfl ⟨by rw [HCM.out], hb.trans (hm7.belowB (by have := hb.size; omega) (fun k hk e => by omega))⟩

/-- A key's 64 bytes: as it is with bytes 0 behind it, or its sum. -/
def fullK (K : List UInt8) : List UInt8 := if 64 < K.length then sha K ++ List.replicate 32 0 else K ++ List.replicate (64 - K.length) 0
theorem fullK_length (K : List UInt8) : (fullK K).length = 64 := by
  unfold fullK
  split
  · rw [List.length_append, sha_length, List.length_replicate]
  · rw [List.length_append, List.length_replicate]; omega
theorem spl_zeros (l : List UInt8) (h : l.length ≤ 64) : spl (Array.replicate 64 (Value.int .u8 0)) 0 (l.map Bv) = ((l ++ List.replicate (64 - l.length) 0).map Bv).toArray := by
  have e : (Array.replicate 64 (Value.int .u8 0)).toList = (List.replicate 64 (0 : UInt8)).map Bv := by rw [Array.toList_replicate, List.map_replicate]; rfl
  unfold spl splice
  rw [e, List.take_zero, List.nil_append, Nat.zero_add, List.length_map, ← List.map_drop, List.drop_replicate, List.map_append]
theorem full_small (w : World) (A : Option Addr) (ca n : Nat) (K : List UInt8) (hn : K.length = n) (hx : Rd w A (K.map Bv)) (hc : n ≤ ca) (hl : n ≤ 64) (hm : ca ≤ 9223372036854775807) :
    Calls Tryd.prog 30 #[.slice A n ca] w fun e w' => e = .returned (.agg ((fullK K).map Bv).toArray) ∧ Below w.heap.size w w' := by
  have hf : spl (Array.replicate 64 (Value.int .u8 0)) 0 (K.map Bv) = ((fullK K).map Bv).toArray := by
    rw [spl_zeros K (by omega)]; unfold fullK; rw [if_neg (by omega)]
  have hx2 := (hx.alloc (.cells (Array.replicate 64 (.int .u8 0)) 51)).alloc (.cells (Array.replicate 64 (.int .u8 0)) 51)
  have hg2 := heap_alloc_new2 w (.cells (Array.replicate 64 (.int .u8 0)) 51) (.cells (Array.replicate 64 (.int .u8 0)) 51)
  have hlk : (K.map Bv).length = n := by rw [List.length_map, hn]
  have hone := bytes_one K
  obtain ⟨kl, hkl⟩ : ∃ kl, kl = K.map Bv := ⟨_, rfl⟩
  obtain ⟨cm, hcm⟩ : ∃ cm, cm = (fullK K).map Bv := ⟨_, rfl⟩
  have hcn : cm.length = 64 := by rw [hcm, List.length_map, fullK_length]
  have hon2 : ∀ v ∈ cm, v.oneCell' = true := by rw [hcm]; exact bytes_one _
  rw [← hkl] at hf hlk hone hx2
  rw [← hcm] at hf ⊢
  have HF := Lib.hid hf; clear hf
  have HX := Lib.hid hx2; clear hx2
  have HG := Lib.hid hg2; clear hg2
  have HLK := Lib.hid hlk; clear hlk
  have HON := Lib.hid hone; clear hone
  have HON2 := Lib.hid hon2; clear hon2
  have HCN := Lib.hid hcn; clear hcn
  clear hkl hcm hn
  go_enter Tryd.func30, Tryd.ntmps30
  go_wp2_with (first
    | (refine wpList_copy_mv (o := ⟨some 17, _, _, _, _, _⟩) ?_ (.tmp 15) (.tmp 16) 28 28 ?_ 5 Tryd.underlying28 (by kernel_rfl) (some ⟨w.heap.size + 1, 0, none⟩) A 64 64 n ca ?_ ?_ (w.heap.size + 1) 0 _ 51 HG.out kl ?_ ?_ HX.out ?_ HON.out ?_; rfl; rfl; rfl; rfl; (rw [HLK.out]; exact (Nat.min_eq_left hl).symm); (intro _; rfl); (rw [HLK.out, Array.size_replicate]; omega); intro w2 hg2 hm2 hs2; rw [HF.out] at hg2; have HG2 := Lib.hid hg2; clear hg2)
    | (refine wpList_load_agg (o := ⟨some 18, _, _, _, _, _⟩) ?_ 51 (.tmp 3) ?_ (w.heap.size + 1) 0 ?_ cm ?_ ?_ ?_ ?_; rfl; rfl; rfl; kernel_rfl; (rw [HCN.out]; kernel_rfl); (intro i v hv; rw [cell_blk HG2.out, Nat.zero_add]; simpa using hv); have hgr := (hm2.block w.heap.size (by simp; omega) (by omega)).trans ((heap_alloc_old _ _ (by simp)).trans (heap_alloc_new w _)); have HGR := Lib.hid hgr; clear hgr)
    | (refine wpList_store_agg (o := ⟨none, _, _, _, _, _⟩) ?_ 51 (.tmp 2) (.tmp 18) ?_ w.heap.size 0 cm ?_ ?_ 51 _ HGR.out ?_ ?_ HON2.out ?_; rfl; rfl; rfl; rfl; (rw [HCN.out]; kernel_rfl); (rw [HCN.out]; decide); intro w7 hg7 hm7 hs7)
    | fail)
  have hg8 : w7.heap[w.heap.size]? = some (.cells cm.toArray 51 (0, 0)) := by
    rw [hg7]
    congr 2
    simp [spl, splice, HCN.out, List.drop_eq_nil_of_le]
  have HG8 := Lib.hid hg8; clear hg8 hg7 hs7
  exact bodyPost_cell rfl w.heap.size 51 cm.toArray rfl HG8.out (by kernel_rfl) (by rw [List.size_toArray, HCN.out]; kernel_rfl) rfl ⟨rfl, (((Below.refl _ w).alloc (Nat.le_refl _) _).alloc (by simp) _).trans ((hm2.belowB (by simp; omega) (fun k hk e => by omega)).trans (hm7.belowB (by rw [hs2]; simp; omega) (fun k hk e => by omega)))⟩
end
end
section
set_option linter.unusedVariables false
set_option linter.unusedSimpArgs false
open Go.RowKit

section
set_option maxHeartbeats 1600000
set_option maxRecDepth 100000
theorem full_large (w : World) (A : Option Addr) (ca n : Nat) (K : List UInt8) (hn : K.length = n) (hx : Rd w A (K.map Bv)) (hc : n ≤ ca) (hl : 64 < n) (hm : ca ≤ 9223372036854775807) (hb : n ≤ 100000000) (ht : AddsMet w) :
    Calls Tryd.prog 30 #[.slice A n ca] w fun e w' => e = .returned (.agg ((fullK K).map Bv).toArray) ∧ Below w.heap.size w w' := by
  have hf : splice (List.replicate 64 (Value.int .u8 0)) 0 ((sha K).map Bv) = (fullK K).map Bv := by
    have e := spl_zeros (sha K) (by rw [sha_length]; decide)
    have e2 := congrArg Array.toList e
    unfold spl at e2
    rw [sha_length, Array.toList_replicate] at e2
    unfold fullK
    rw [if_pos (by omega)]
    simpa using e2
  have hb0 := ((Below.refl _ w).alloc (Nat.le_refl _) (.cells (Array.replicate 64 (.int .u8 0)) 51)).alloc (by simp) (.cells (Array.replicate 64 (.int .u8 0)) 51)
  have hx2 := hx.below hb0
  have ht2 := ht.below hb0
  have hg2 := heap_alloc_new2 w (.cells (Array.replicate 64 (.int .u8 0)) 51) (.cells (Array.replicate 64 (.int .u8 0)) 51)
  have hgr := (heap_alloc_old _ (.cells (Array.replicate 64 (.int .u8 0)) 51) (by simp)).trans (heap_alloc_new w (.cells (Array.replicate 64 (.int .u8 0)) 51))
  have hz0 : ((w.alloc (.cells (Array.replicate 64 (.int .u8 0)) 51)).alloc (.cells (Array.replicate 64 (.int .u8 0)) 51)).heap.size = w.heap.size + 2 := by simp
  have hgt : ((n : Int) > 64) = True := by simp; omega
  have HX := Lib.hid hx2; clear hx2
  have HT := Lib.hid ht2; clear ht2 ht
  have HG := Lib.hid hg2; clear hg2
  have HGR := Lib.hid hgr; clear hgr
  have HF := Lib.hid hf; clear hf
  have HN := Lib.hid hn; clear hn
  clear hgt
  go_enter Tryd.func30, Tryd.ntmps30
  go_wp2_with fail
  have hcall := hashSum_one ((w.alloc (.cells (Array.replicate 64 (.int .u8 0)) 51)).alloc (.cells (Array.replicate 64 (.int .u8 0)) 51)) A ca n K HN.out HX.out hc hm hb HT.out (sha K) rfl
  rw [hz0] at hcall
  refine hcall.mono ?_
  rintro e w1 ⟨rfl, hb1⟩
  have hb1' := hb0.trans (hb1.mono (by omega))
  have hg1 := (hb1.block (w.heap.size + 1) (by omega)).trans HG.out
  have hr1 := (hb1.block w.heap.size (by omega)).trans HGR.out
  have hs1 : w.heap.size + 2 ≤ w1.heap.size := by have := hb1.size; rw [hz0] at this; exact this
  obtain ⟨cs, hcs⟩ : ∃ cs, cs = (sha K).map Bv := ⟨_, rfl⟩
  have hcsn : cs.length = 32 := by rw [hcs, List.length_map, sha_length]
  have hone : ∀ v ∈ cs, v.oneCell' = true := by rw [hcs]; exact bytes_one _
  unfold sumV
  rw [← hcs]
  rw [← hcs] at HF
  obtain ⟨cm, hcm⟩ : ∃ cm, cm = (fullK K).map Bv := ⟨_, rfl⟩
  have hcn : cm.length = 64 := by rw [hcm, List.length_map, fullK_length]
  have hon2 : ∀ v ∈ cm, v.oneCell' = true := by rw [hcm]; exact bytes_one _
  rw [← hcm] at HF
  have HON := Lib.hid hone; clear hone
  have HON2 := Lib.hid hon2; clear hon2
  have HCN := Lib.hid hcn; clear hcn
  have HSN := Lib.hid hcsn; clear hcsn
  have HG1 := Lib.hid hg1; clear hg1
  have HR1 := Lib.hid hr1; clear hr1
  have HCM := Lib.hid hcm; clear hcm
  clear hcs hcall hb1 hb0 HG HGR HX HT hz0
  go_wp2_with (first
    | (refine wpList_store_agg (o := ⟨none, _, _, _, _, _⟩) ?_ 25 (.tmp 4) (.tmp 10) ?_ w1.heap.size 0 cs ?_ ?_ 25 _ (heap_alloc_new w1 _) ?_ ?_ HON.out ?_; rfl; rfl; rfl; rfl; (rw [HSN.out]; kernel_rfl); (rw [HSN.out]; decide); intro w2 hg2 hm2 hs2)
    | fail)
  have hg2' : Rd w2 (some ⟨w1.heap.size, 0, none⟩) cs := by
    intro j v hv
    refine ⟨_, 0, rfl, ?_⟩
    rw [cell_blk hg2, spl_get (by rw [HSN.out]; decide), if_neg (by omega), if_pos (by have := (List.getElem?_eq_some_iff.1 hv).1; omega)]
    simpa using hv
  have hgz := (hm2.block (w.heap.size + 1) (by rw [World.size_alloc]; omega) (by omega)).trans ((heap_alloc_old _ _ (by omega)).trans HG1.out)
  have hgr := (hm2.block w.heap.size (by simp; omega) (by omega)).trans ((heap_alloc_old _ _ (by omega)).trans HR1.out)
  have hb2 : Below w.heap.size w w2 := (hb1'.alloc (by omega) _).trans (hm2.belowB (by simp; omega) (fun k hk e => by omega))
  have hz2 : w.heap.size + 2 ≤ w2.heap.size := by rw [hs2]; simp; omega
  have hgz' : w2.heap[w.heap.size + 1]? = some (.cells (List.replicate 64 (Value.int .u8 0)).toArray 51 (0, 0)) := by rw [hgz]; congr 2
  have HGZ := Lib.hid hgz'; clear hgz' hgz
  have HGR := Lib.hid hgr; clear hgr
  have HRD := Lib.hid hg2'; clear hg2'
  clear hg2 hm2 hs2 HG1 HR1 hb1'
  go_region_law (refine step_copy_splice rfl (.tmp 11) (.tmp 12) 28 28 rfl 5 Tryd.underlying28 (by kernel_rfl) (some ⟨w.heap.size + 1, 0, none⟩) (some ⟨w1.heap.size, 0, none⟩) 64 64 32 32 (by simp [Act.eval, Act.put]) (by simp [Act.eval, Act.put]) (w.heap.size + 1) 0 (List.replicate 64 (Value.int .u8 0)) 51 HGZ.out cs (by rw [HSN.out]; rfl) (fun _ => ⟨rfl, _, rfl, rd_cells (show Rd w2.drew _ _ from HRD.out)⟩) (by rw [HSN.out]; decide) HON.out (w.heap.size + 1) w2.drew (Below.refl _ _) (Nat.le_refl _) ?_; intro w4 hg4 hb4)
  rw [HF.out] at hg4
  have hgr4 := (hb4.block w.heap.size (by omega)).trans HGR.out
  have hb5 : Below w.heap.size w w4 := hb2.trans (show Below w.heap.size w2 w4 from ⟨hb4.os, hb4.tape, hb4.output, hb4.size, fun k hk => hb4.block k (by omega)⟩)
  have hz4 := hb4.size
  have HGR4 := Lib.hid hgr4; clear hgr4
  clear hb4
  go_wp2_with (first
    | (refine wpList_load_agg (o := ⟨some 14, _, _, _, _, _⟩) ?_ 51 (.tmp 3) ?_ (w.heap.size + 1) 0 ?_ cm ?_ ?_ ?_ ?_; rfl; rfl; rfl; kernel_rfl; (rw [HCN.out]; kernel_rfl); (intro i v hv; rw [cell_blk hg4.out, Nat.zero_add]; simpa using hv))
    | (refine wpList_store_agg (o := ⟨none, _, _, _, _, _⟩) ?_ 51 (.tmp 2) (.tmp 14) ?_ w.heap.size 0 cm ?_ ?_ 51 _ HGR4.out ?_ ?_ HON2.out ?_; rfl; rfl; rfl; rfl; (rw [HCN.out]; kernel_rfl); (rw [HCN.out]; decide); intro w7 hg7 hm7 hs7)
    | fail)
  have hg8 : w7.heap[w.heap.size]? = some (.cells cm.toArray 51 (0, 0)) := by
    rw [hg7]
    congr 2
    simp [spl, splice, HCN.out, List.drop_eq_nil_of_le]
  have HG8 := Lib.hid hg8; clear hg8 hg7 hs7
  exact bodyPost_cell rfl w.heap.size 51 cm.toArray rfl HG8.out (by kernel_rfl) (by rw [List.size_toArray, HCN.out]; kernel_rfl) rfl ⟨by rw [HCM.out], hb5.trans (hm7.belowB (by have := hb5.size; omega) (fun k hk e => by omega))⟩
theorem full_any (w : World) (A : Option Addr) (ca n : Nat) (K : List UInt8) (hn : K.length = n) (hx : Rd w A (K.map Bv)) (hc : n ≤ ca) (hm : ca ≤ 9223372036854775807) (hb : n ≤ 100000000) (ht : AddsMet w) :
    Calls Tryd.prog 30 #[.slice A n ca] w fun e w' => e = .returned (.agg ((fullK K).map Bv).toArray) ∧ Below w.heap.size w w' := by
  by_cases h : n ≤ 64
  · exact full_small w A ca n K hn hx hc h hm
  · exact full_large w A ca n K hn hx hc (by omega) hm hb ht
end
end
end Go.Proofs.YtgpmghnemhngeaaDoor
