/-
  What fills up a text; a state's words as bytes.
-/
import Derived.Test.YtmgjlldccmgpcaaDoorAd
namespace Go.Proofs.YtmgjlldccmgpcaaDoor
set_option linter.unusedVariables false
set_option linter.unusedSimpArgs false
open Go.RowKit

/-- What fills up, the first k bytes of its number laid. -/
def padK (n k : Nat) : List UInt8 := 128 :: (List.replicate (zerosN n) 0 ++ ((big8 (8 * n)).take k ++ List.replicate (8 - k) 0))
theorem padK_length (n k : Nat) (h : k ≤ 8) : (padK n k).length = 9 + zerosN n := by simp [padK, big8_length]; omega
theorem padK_zero (n : Nat) : padK n 0 = 128 :: List.replicate (zerosN n + 8) 0 := by
  unfold padK
  rw [List.take_zero, List.nil_append, List.replicate_append_replicate]
theorem padK_full (n : Nat) : padK n 8 = padS n := by
  unfold padK padS
  rw [List.take_of_length_le (by rw [big8_length]; exact Nat.le_refl _), Nat.sub_self, List.replicate_zero, List.append_nil]
theorem big8_get (n k : Nat) (h : k < 8) : (big8 n)[k]'(by rw [big8_length]; exact h) = UInt8.ofNat (n / 2 ^ (8 * (7 - k)) % 256) := by simp [big8]
theorem padK_set (n k : Nat) (h : k < 8) : (padK n k).set (1 + zerosN n + k) (UInt8.ofNat (8 * n / 2 ^ (8 * (7 - k)) % 256)) = padK n (k + 1) := by
  unfold padK
  rw [show 1 + zerosN n + k = (zerosN n + k) + 1 from by omega, List.set_cons_succ, List.set_append, if_neg (by simp), List.length_replicate, Nat.add_sub_cancel_left]
  have hl : ((big8 (8 * n)).take k).length = k := by rw [List.length_take, big8_length]; omega
  rw [List.set_append, if_neg (by omega), hl, Nat.sub_self]
  congr 2
  rw [show 8 - k = (8 - (k + 1)) + 1 from by omega, List.replicate_succ, List.set_cons_zero, List.take_succ_eq_append_getElem (by rw [big8_length]; exact h), List.append_assoc, big8_get _ _ h]
  rfl

theorem made_row {w1 : World} {base g N : Nat} (h : w1.ownsRow base 5 1 (.slice (some ⟨g, 0, none⟩) N N) N (madeCells (Value.int .u8 0).cells (N * 1)).toList) :
    w1.ownsRow base 5 1 (.slice (some ⟨g, 0, none⟩) N N) N ((List.replicate N (0 : UInt8)).map Bv) := by
  have e : (madeCells (Value.int .u8 0).cells (N * 1)).toList = (List.replicate N (0 : UInt8)).map Bv := by
    rw [Nat.mul_one, List.map_replicate]
    exact toList_madeCells_one (.int .u8 0) N
  rw [← e]
  exact h
theorem row_cell {w1 : World} {base g N : Nat} {l : List UInt8} (h : w1.ownsRow base 5 1 (.slice (some ⟨g, 0, none⟩) N N) N (l.map Bv)) {k : Nat} (hk : k < l.length) :
    (∃ v, w1.cell? ⟨g, k, none⟩ = some v) ∧ w1.frozen? ⟨g, k, none⟩ = false := by
  have hc := h.cells (g := g) rfl k (Bv l[k]) (by simp [hk])
  rw [add_flat] at hc
  exact ⟨⟨_, hc⟩, h.frozenAt k⟩
theorem row_set {w1 : World} {base g N : Nat} {l : List UInt8} (h : w1.ownsRow base 5 1 (.slice (some ⟨g, 0, none⟩) N N) N (l.map Bv)) (k : Nat) {x : Int} {m : Nat} (hx : x = (m : Nat)) (hm : m < 256) :
    (w1.setCell ⟨g, k, none⟩ (.int .u8 x)).ownsRow base 5 1 (.slice (some ⟨g, 0, none⟩) N N) N ((l.set k (UInt8.ofNat m)).map Bv) := by
  have e := (h.stored k (.int .u8 x)).1
  rw [List.map_set, ← byte_of hx hm]
  exact e

/-- An array of n bytes in block b, of which the first k are told. -/
def BytesAt (w : World) (b : Nat) (t : TypeId) (n k : Nat) (f : Nat → Nat) : Prop :=
  ∃ cs : Array Value, w.heap[b]? = some (.cells cs t (0, 0)) ∧ cs.size = n ∧ ∀ i, i < k → cs[i]? = some (.int .u8 (f i : Nat))
theorem BytesAt.cell {w : World} {b : Nat} {t : TypeId} {n k : Nat} {f : Nat → Nat} (h : BytesAt w b t n k f) {i : Nat} (hi : i < n) : ∃ v, w.cell? ⟨b, i, none⟩ = some v := by
  obtain ⟨cs, hb, hn, hf⟩ := h
  exact ⟨cs[i]'(by omega), by rw [cell_blk hb]; simp [hn, hi]⟩
theorem BytesAt.free {w : World} {b : Nat} {t : TypeId} {n k : Nat} {f : Nat → Nat} (h : BytesAt w b t n k f) (i : Nat) : w.frozen? ⟨b, i, none⟩ = false := by
  obtain ⟨cs, hb, _, _⟩ := h
  exact free_blk hb i
theorem BytesAt.set {w : World} {b : Nat} {t : TypeId} {n k i : Nat} {f : Nat → Nat} (h : BytesAt w b t n k f) {x : Int} (hk : k < n) (hi : i = k) (hx : x = (f k : Nat)) : BytesAt (w.setCell ⟨b, i, none⟩ (.int .u8 x)) b t n (k + 1) f := by
  subst hi
  obtain ⟨cs, hb, hn, hf⟩ := h
  refine ⟨_, set_blk hb i _, by simp [hn], fun j hj => ?_⟩
  rw [Array.getElem?_setIfInBounds]
  by_cases e : i = j
  · subst e; rw [if_pos rfl, if_pos (by omega), hx]
  · rw [if_neg e]; exact hf j (by omega)
theorem BytesAt.block {w w' : World} {b : Nat} {t : TypeId} {n k : Nat} {f : Nat → Nat} (h : BytesAt w b t n k f) (hb : w'.heap[b]? = w.heap[b]?) : BytesAt w' b t n k f := by
  obtain ⟨cs, h1, h2⟩ := h
  exact ⟨cs, hb.trans h1, h2⟩

section
set_option maxHeartbeats 1600000
set_option maxRecDepth 100000
theorem ending_any (w : World) (n : Nat) (hn : n ≤ 140737488355328) :
    Calls Tryd.prog 39 #[.int .i64 (n : Nat)] w fun e w' => ∃ v, e = .returned v ∧ w'.ownsRow w.heap.size 5 1 v (9 + zerosN n) ((padS n).map Bv) ∧ Below w.heap.size w w' := by
  obtain ⟨i0, hi, hz0, hz1, hz2⟩ := info_parts infoU8
  obtain ⟨z, hz⟩ : ∃ z, z = zerosN n := ⟨_, rfl⟩
  have hzl : z < 64 := by rw [hz]; unfold zerosN; omega
  have hze : (119 - (n : Int) % 64) % 64 = (z : Int) := by rw [hz]; unfold zerosN; omega
  rw [← hz]
  have hlen := padK_length n
  have hset := padK_set n
  have hzr := padK_zero n
  rw [← hz] at hlen hset hzr
  have HZ := Lib.hid hz; clear hz
  have HS := Lib.hid hset; clear hset
  have HZR := Lib.hid hzr; clear hzr
  have HL := Lib.hid hlen; clear hlen
  go_enter Tryd.func39, Tryd.ntmps39
  go_wp2_with (first | (at_make; refine wpList_make_full _ rfl _ _ 28 rfl w.heap.size 5 i0 (.int .u8 0) 1 Tryd.underlying28 hi hz0 hz1 _ _ _ _ (9 + z) rfl rfl (by omega) (by omega) (by rw [hz2]; omega) (by unfold maxLen; omega) (Nat.le_refl _) ?_; intro w1 hown hgrow; have hown := made_row hown; obtain ⟨⟨v0, hv0⟩, hf0⟩ := row_cell hown (k := 0) (by simp; omega)) | fail)
  have hown1 := row_set hown 0 (x := 128) (m := 128) rfl (by decide)
  have hown2 : (w1.setCell ⟨w.heap.size, 0, none⟩ (.int .u8 128)).ownsRow w.heap.size 5 1 (.slice (some ⟨w.heap.size, 0, none⟩) (9 + z) (9 + z)) (9 + z) ((padK n 0).map Bv) := by
    rw [HZR.out]
    rw [show 9 + z = (z + 8) + 1 from by omega] at hown1 ⊢
    rw [List.replicate_succ, List.set_cons_zero] at hown1
    exact hown1
  have hb2 : Below w.heap.size w (w1.setCell ⟨w.heap.size, 0, none⟩ (.int .u8 128)) := ((Below.refl _ _).grown hgrow (Nat.le_refl _) (fun k e => by cases e)).setCell (Nat.le_refl _) _
  clear hown1
  go_wp2
  clear hown hv0 hf0 hgrow
  go_loopw [20] (fun i wr => ∃ k : Nat, k ≤ 8 ∧ i = .int .i64 k ∧ wr.ownsRow w.heap.size 5 1 (.slice (some ⟨w.heap.size, 0, none⟩) (9 + z) (9 + z)) (9 + z) ((padK n k).map Bv) ∧ Below w.heap.size w wr) (fun i _ => 8 - (intOf i).toNat)
  case atStart => exact ⟨0, by omega, rfl, hown2, hb2⟩
  case round =>
    clear hown2 hb2
    obtain ⟨k, hk, rfl, hown, hb⟩ := hrel
    by_cases hlt : k < 8
    · obtain ⟨⟨v0, hv0⟩, hf0⟩ := row_cell hown (k := 1 + z + k) (by rw [HL.out k hk]; omega)
      have hst := HS.out k hlt
      have HST := Lib.hid hst; clear hst
      obtain ⟨e, he⟩ : ∃ e, e = 8 * (7 - k) := ⟨_, rfl⟩
      have he2 : (8 : Int) * (7 - (k : Int)) = (e : Int) := by omega
      have he3 : e ≤ 56 := by omega
      rw [← he] at HST
      have HE := Lib.hid he; clear he
      go_wp2
      go_roundw
      case rel =>
        refine ⟨k + 1, by omega, by go_num, ?_, hb.setCell (Nat.le_refl _) _⟩
        rw [← HST.out]
        exact row_set hown _ (by rw [natCast_two_pow, Nat.mul_comm 8 n]; rfl) (Nat.mod_lt _ (by decide))
      case measure => simp [intOf]; omega
    · have h8 : k = 8 := by omega
      rw [h8, padK_full] at hown
      clear h8
      go_wp2
      go_ret
      exact ⟨_, rfl, hown, hb⟩

theorem bytesOf_any (w : World) (s : St) (hs : s.Ok) :
    Calls Tryd.prog 40 #[stV s] w fun e w' => e = .returned (.agg ((outS s).map Bv).toArray) ∧ Below w.heap.size w w' := by
  rw [stV_eq]
  go_enter Tryd.func40, Tryd.ntmps40
  go_wp2
  go_loopw [7] (fun i wr => ∃ k : Nat, k ≤ 8 ∧ i = .int .i64 k ∧ BytesAt wr (w.heap.size + 1 + 1) 25 32 (4 * k) (outB s) ∧ BytesAt wr (w.heap.size + 1) 25 32 0 (outB s) ∧ Below w.heap.size w wr) (fun i _ => 8 - (intOf i).toNat)
  case atStart => exact ⟨0, by omega, rfl, ⟨_, by rw [show w.heap.size + 1 + 1 = ((w.alloc (.cells (stC s).toArray 54)).alloc (.cells (Array.replicate 32 (.int .u8 0)) 25)).heap.size from by simp]; exact heap_alloc_new _ _, rfl, fun i h => by omega⟩,
      ⟨_, (heap_alloc_old _ _ (by simp)).trans (heap_alloc_new2 w _ _), rfl, fun i h => by omega⟩, (((Below.refl _ w).alloc (Nat.le_refl _) _).alloc (by simp) _).alloc (by simp; omega) _⟩
  case round =>
    obtain ⟨k, hk, rfl, hW, hZ, hb⟩ := hrel
    by_cases hlt : k < 8
    · have hix := fun (u : World) => run_index_agg (P := Tryd.prog) u 54 53 8 k (stC s).toArray _ Tryd.underlying54 (by kernel_rfl) (by kernel_rfl) (by kernel_rfl) hlt (by simpa using stC_get s k hlt)
      simp only [stC] at hix
      have hx := hs.at k
      have b0 : outB s (4 * k) = s.at k / 16777216 := by unfold outB; rw [show 4 * k / 4 = k from by omega, show 4 * k % 4 = 0 from by omega]; show s.at k / 16777216 % 256 = _; omega
      have b1 : outB s (4 * k + 1) = s.at k / 65536 % 256 := by unfold outB; rw [show (4 * k + 1) / 4 = k from by omega, show (4 * k + 1) % 4 = 1 from by omega]
      have b2 : outB s (4 * k + 2) = s.at k / 256 % 256 := by unfold outB; rw [show (4 * k + 2) / 4 = k from by omega, show (4 * k + 2) % 4 = 2 from by omega]
      have b3 : outB s (4 * k + 3) = s.at k % 256 := by unfold outB; rw [show (4 * k + 3) / 4 = k from by omega, show (4 * k + 3) % 4 = 3 from by omega]; show s.at k / 1 % 256 = _; rw [Nat.div_one]
      have B0 := Lib.hid b0; clear b0
      have B1 := Lib.hid b1; clear b1
      have B2 := Lib.hid b2; clear b2
      have B3 := Lib.hid b3; clear b3
      generalize s.at k = x at *
      obtain ⟨v0, hv0⟩ := hW.cell (i := 4 * k) (by omega)
      obtain ⟨v1, hv1⟩ := hW.cell (i := 4 * k + 1) (by omega)
      obtain ⟨v2, hv2⟩ := hW.cell (i := 4 * k + 2) (by omega)
      obtain ⟨v3, hv3⟩ := hW.cell (i := 4 * k + 3) (by omega)
      have f0 := hW.free (4 * k)
      have f1 := hW.free (4 * k + 1)
      have f2 := hW.free (4 * k + 2)
      have f3 := hW.free (4 * k + 3)
      go_wp2
      go_roundw
      case rel =>
        refine ⟨k + 1, by omega, by go_num, ?_, hZ.block ?_, (((hb.setCell (by simp; omega) _).setCell (by simp; omega) _).setCell (by simp; omega) _).setCell (by simp; omega) _⟩
        · rw [show 4 * (k + 1) = 4 * k + 1 + 1 + 1 + 1 from by omega]
          exact (((hW.set (by omega) rfl (by rw [B0.out]; rfl)).set (by omega) rfl (by rw [B1.out]; rfl)).set (by omega) rfl (by rw [B2.out]; rfl)).set (by omega) rfl (by rw [B3.out]; rfl)
        · rw [heap_setCell_other _ _ _ _ (by simp), heap_setCell_other _ _ _ _ (by simp), heap_setCell_other _ _ _ _ (by simp), heap_setCell_other _ _ _ _ (by simp)]
      case measure => simp [intOf]; omega
    · have h8 : 4 * k = 32 := by omega
      rw [h8] at hW
      clear h8
      obtain ⟨cs, hcs, hcz, hcf⟩ := hW
      obtain ⟨zs, hzs, hzz, _⟩ := hZ
      have hce : cs = ((outS s).map Bv).toArray := by
        refine words_eq (by rw [hcz, List.length_map, outS_length]) fun i hi => ?_
        have hi2 : i < 32 := by simpa [outS_length] using hi
        rw [hcf i hi2, List.getElem?_map, outS_get s hi2, Option.map_some, ← byte_of rfl (outB_lt s i)]
      obtain ⟨cl, hcl⟩ : ∃ cl, cl = (outS s).map Bv := ⟨_, rfl⟩
      have hcn : cl.length = 32 := by rw [hcl, List.length_map, outS_length]
      have hone : ∀ v ∈ cl, v.oneCell' = true := by rw [hcl]; intro v hv; obtain ⟨x, _, rfl⟩ := List.mem_map.1 hv; rfl
      rw [hce, ← hcl] at hcs
      clear hce hcf hcz
      have HCL := Lib.hid hcl; clear hcl
      have HCN := Lib.hid hcn; clear hcn
      have HCS := Lib.hid hcs; clear hcs
      have HZS := Lib.hid hzs; clear hzs
      have HZZ := Lib.hid hzz; clear hzz
      have HON := Lib.hid hone; clear hone
      go_wp2_with (first
        | (refine wpList_load_agg (o := ⟨some 38, _, _, _, _, _⟩) ?_ 25 (.tmp 3) ?_ (w.heap.size + 1 + 1) 0 ?_ cl ?_ ?_ ?_ ?_; rfl; rfl; rfl; kernel_rfl; (rw [HCN.out]; kernel_rfl); (intro i v hv; rw [cell_blk HCS.out, Nat.zero_add]; simpa using hv))
        | (refine wpList_store_agg (o := ⟨none, _, _, _, _, _⟩) ?_ 25 (.tmp 2) (.tmp 38) ?_ (w.heap.size + 1) 0 cl ?_ ?_ 25 zs HZS.out ?_ ?_ HON.out ?_; rfl; rfl; rfl; rfl; (rw [HCN.out]; kernel_rfl); (rw [HCN.out, HZZ.out]; decide); intro w7 hg7 hm7 hs7)
        | fail)
      have hg8 : w7.heap[w.heap.size + 1]? = some (.cells cl.toArray 25 (0, 0)) := by
        rw [hg7]
        congr 2
        simp [spl, splice, HCN.out, HZZ.out, List.drop_eq_nil_of_le]
      have HG8 := Lib.hid hg8; clear hg8 hg7 hs7
      refine bodyPost_cell rfl (w.heap.size + 1) 25 cl.toArray rfl HG8.out (by kernel_rfl) (by rw [List.size_toArray, HCN.out]; kernel_rfl) rfl ⟨?_, hb.trans (hm7.belowB (by have := hb.size; omega) (fun k hk e => by omega))⟩
      rw [HCL.out]
end
end Go.Proofs.YtmgjlldccmgpcaaDoor
