/-
  The words of a block.
-/
import Derived.Test.YtmgjlldccmgpcaaDoorRot
import Derived.BigRegion
import Derived.Test.YtmgjlldccmgpcaaDoorGen
namespace Go.Proofs.YtmgjlldccmgpcaaDoor
set_option linter.unusedVariables false
set_option linter.unusedSimpArgs false
open Go.RowKit

/-- An array of n words in block b, of which the first k are told. -/
def WordsAt (w : World) (b : Nat) (t : TypeId) (n k : Nat) (f : Nat → Nat) : Prop :=
  ∃ cs : Array Value, w.heap[b]? = some (.cells cs t (0, 0)) ∧ cs.size = n ∧ ∀ i, i < k → cs[i]? = some (.int .u32 (f i : Nat))
theorem WordsAt.get {w : World} {b : Nat} {t : TypeId} {n k : Nat} {f : Nat → Nat} (h : WordsAt w b t n k f) {i : Nat} (hi : i < k) : w.cell? ⟨b, i, none⟩ = some (.int .u32 (f i : Nat)) := by
  obtain ⟨cs, hb, _, hf⟩ := h
  rw [cell_blk hb, hf i hi]
theorem WordsAt.cell {w : World} {b : Nat} {t : TypeId} {n k : Nat} {f : Nat → Nat} (h : WordsAt w b t n k f) {i : Nat} (hi : i < n) : ∃ v, w.cell? ⟨b, i, none⟩ = some v := by
  obtain ⟨cs, hb, hn, hf⟩ := h
  exact ⟨cs[i]'(by omega), by rw [cell_blk hb]; simp [hn, hi]⟩
theorem WordsAt.free {w : World} {b : Nat} {t : TypeId} {n k : Nat} {f : Nat → Nat} (h : WordsAt w b t n k f) (i : Nat) : w.frozen? ⟨b, i, none⟩ = false := by
  obtain ⟨cs, hb, _, _⟩ := h
  exact free_blk hb i
theorem WordsAt.lt {w : World} {b : Nat} {t : TypeId} {n k : Nat} {f : Nat → Nat} (h : WordsAt w b t n k f) : b < w.heap.size := by
  obtain ⟨cs, hb, _, _⟩ := h
  exact blk_lt hb
theorem WordsAt.set {w : World} {b : Nat} {t : TypeId} {n k : Nat} {f : Nat → Nat} (h : WordsAt w b t n k f) {x : Int} (hk : k < n) (hx : x = (f k : Nat)) : WordsAt (w.setCell ⟨b, k, none⟩ (.int .u32 x)) b t n (k + 1) f := by
  obtain ⟨cs, hb, hn, hf⟩ := h
  refine ⟨_, set_blk hb k _, by simp [hn], fun i hi => ?_⟩
  rw [Array.getElem?_setIfInBounds]
  by_cases e : k = i
  · subst e; rw [if_pos rfl, if_pos (by omega), hx]
  · rw [if_neg e]; exact hf i (by omega)
theorem WordsAt.block {w w' : World} {b : Nat} {t : TypeId} {n k : Nat} {f : Nat → Nat} (h : WordsAt w b t n k f) (hb : w'.heap[b]? = w.heap[b]?) : WordsAt w' b t n k f := by
  obtain ⟨cs, h1, h2⟩ := h
  exact ⟨cs, hb.trans h1, h2⟩
theorem WordsAt.new (w : World) (t : TypeId) (cs : Array Value) (f : Nat → Nat) : WordsAt (w.alloc (.cells cs t)) w.heap.size t cs.size 0 f :=
  ⟨cs, heap_alloc_new w _, rfl, fun i hi => by omega⟩

/-- Bytes from an address on, as numbers. -/
theorem Rd.at {w : World} {A : Option Addr} {xs : List UInt8} (h : Rd w A (xs.map Bv)) (h0 : 0 < xs.length) :
    ∃ b off, A = some ⟨b, off, none⟩ ∧ ∀ k, k < xs.length → w.cell? ⟨b, off + k, none⟩ = some (.int .u8 (bt xs k : Nat)) := by
  obtain ⟨b, off, rfl, _⟩ := h.byte h0
  refine ⟨b, off, rfl, fun k hk => ?_⟩
  obtain ⟨b1, o1, e, hc⟩ := h.byte hk
  injection e with e; injection e with e1 e2; subst e1 e2
  rw [hc]
  simp [bt, List.getD, hk]
theorem or4 (a b c d : Nat) (ha : a < 256) (hb : b < 256) (hc : c < 256) (hd : d < 256) :
    bits .or .u32 (bits .or .u32 (bits .or .u32 ((a : Int) * 16777216) ((b : Int) * 65536)) ((c : Int) * 256)) (d : Int) = ((a * 16777216 + b * 65536 + c * 256 + d : Nat) : Int) := by
  have e1 : (a : Int) * 16777216 = ((a * 16777216 : Nat) : Int) := rfl
  have e2 : (b : Int) * 65536 = ((b * 65536 : Nat) : Int) := rfl
  have e3 : (c : Int) * 256 = ((c * 256 : Nat) : Int) := rfl
  have o1 : (a * 16777216) ||| (b * 65536) = b * 65536 + a * 16777216 := by rw [Nat.or_comm]; exact or_beside (b * 65536) a 24 (by omega)
  have o2 : (b * 65536 + a * 16777216) ||| (c * 256) = c * 256 + (b * 65536 + a * 16777216) := by
    rw [Nat.or_comm, show b * 65536 + a * 16777216 = (b + a * 256) * 2 ^ 16 from by omega]; exact or_beside (c * 256) _ 16 (by omega)
  have o3 : (c * 256 + (b * 65536 + a * 16777216)) ||| d = d + (c * 256 + (b * 65536 + a * 16777216)) := by
    rw [Nat.or_comm, show c * 256 + (b * 65536 + a * 16777216) = (c + b * 256 + a * 65536) * 2 ^ 8 from by omega]; exact or_beside d _ 8 (by omega)
  rw [e1, e2, u32_or_nat _ _ (by omega) (by omega), o1, e3, u32_or_nat _ _ (by omega) (by omega), o2, u32_or_nat _ _ (by omega) (by omega), o3]
  congr 1; omega

section
set_option maxHeartbeats 1600000
set_option maxRecDepth 100000
theorem spread_any (w : World) (A : Option Addr) (ca n : Nat) (xs : List UInt8) (hn : xs.length = n) (hx : Rd w A (xs.map Bv)) (hl : 64 ≤ n) (hm : n ≤ 9223372036854775807) :
    Calls Tryd.prog 73 #[.slice A n ca] w fun e w' => ∃ cs : Array Value, e = .returned (.agg cs) ∧ cs.size = 64 ∧ (∀ t, t < 64 → cs[t]? = some (.int .u32 (wW xs t : Nat))) ∧ Below w.heap.size w w' := by
  have HN := Lib.hid hn; clear hn
  go_enter Tryd.func73, Tryd.ntmps73
  go_wp2
  go_loopw [10] (fun i wr => ∃ k : Nat, k ≤ 16 ∧ i = .int .i64 k ∧ WordsAt wr (w.heap.size + 1) 84 64 k (wW xs) ∧ WordsAt wr w.heap.size 84 64 0 (wW xs) ∧ Below w.heap.size w wr) (fun i _ => 16 - (intOf i).toNat)
  case atStart => exact ⟨0, by omega, rfl, ⟨_, heap_alloc_new2 w _ _, rfl, fun i h => by omega⟩, ⟨_, heap_alloc2_old w _ _, rfl, fun i h => by omega⟩, ((Below.refl _ w).alloc (Nat.le_refl _) _).alloc (by simp) _⟩
  case round =>
    obtain ⟨k, hk, rfl, hW, hZ, hb⟩ := hrel
    by_cases hlt : k < 16
    · obtain ⟨b, off, rfl, hc⟩ := (hx.below hb).at (by have := HN.out; omega)
      have c0 := hc (4 * k) (by have := HN.out; omega)
      have c1 := hc (4 * k + 1) (by have := HN.out; omega)
      have c2 := hc (4 * k + 2) (by have := HN.out; omega)
      have c3 := hc (4 * k + 3) (by have := HN.out; omega)
      obtain ⟨v0, hv0⟩ := hW.cell (i := k) (by omega)
      have hfz := hW.free k
      have hst := wW_first xs k hlt
      have h0 := bt_lt xs (4 * k); have h1 := bt_lt xs (4 * k + 1); have h2 := bt_lt xs (4 * k + 2); have h3 := bt_lt xs (4 * k + 3)
      have ho := or4 _ _ _ _ h0 h1 h2 h3
      unfold be4 at hst
      rw [← hst] at ho
      clear hc hst
      generalize bt xs (4 * k) = z0 at *
      generalize bt xs (4 * k + 1) = z1 at *
      generalize bt xs (4 * k + 2) = z2 at *
      generalize bt xs (4 * k + 3) = z3 at *
      have HO := Lib.hid ho; clear ho
      go_wp2
      go_region
      go_wp2
      go_roundw
      case rel => exact ⟨k + 1, by omega, by go_num, hW.set (by omega) HO.out, hZ.block (heap_setCell_other _ _ _ _ (by simp)), (hb.setCell (by simp) _).drew⟩
      case measure => simp [intOf]; omega
    · have e16 : k = 16 := by omega
      rw [e16] at hW
      clear e16
      go_wp2
      obtain ⟨w0, hw0⟩ : ∃ w0, w0 = wr := ⟨_, rfl⟩
      rw [← hw0]
      clear hx
      go_loopw [5] (fun i wq => ∃ k : Nat, 16 ≤ k ∧ k ≤ 64 ∧ i = .int .i64 k ∧ WordsAt wq (w.heap.size + 1) 84 64 k (wW xs) ∧ WordsAt wq w.heap.size 84 64 0 (wW xs) ∧ Below w.heap.size w wq) (fun i _ => 64 - (intOf i).toNat)
      case atStart => exact ⟨16, by omega, by omega, rfl, by rw [hw0]; exact hW, by rw [hw0]; exact hZ, by rw [hw0]; exact hb⟩
      clear hW hZ hb hw0
      case round =>
        obtain ⟨k, hk0, hk, rfl, hW, hZ, hb⟩ := hrel
        by_cases hlt : k < 64
        · have c0 := hW.get (i := k - 15) (by omega)
          have c1 := hW.get (i := k - 2) (by omega)
          have c2 := hW.get (i := k - 16) (by omega)
          have c3 := hW.get (i := k - 7) (by omega)
          obtain ⟨v0, hv0⟩ := hW.cell (i := k) (by omega)
          have hfz := hW.free k
          have hst := wW_next xs k hk0
          have l0 := wW_lt xs (k - 15); have l1 := wW_lt xs (k - 2); have l2 := wW_lt xs (k - 16); have l3 := wW_lt xs (k - 7)
          generalize wW xs (k - 15) = x0 at *
          generalize wW xs (k - 2) = x1 at *
          generalize wW xs (k - 16) = x2 at *
          generalize wW xs (k - 7) = x3 at *
          have HST := Lib.hid hst; clear hst
          have f0 : bits .xor .u32 (bits .xor .u32 ((rotr x0 7 : Nat) : Int) ((rotr x0 18 : Nat) : Int)) ((x0 : Int) / 8) = ((sg0 x0 : Nat) : Int) := by
            rw [u32_xor_nat _ _ (rotr_lt l0) (rotr_lt l0), show (x0 : Int) / 8 = ((x0 / 8 : Nat) : Int) from rfl, u32_xor_nat _ _ (xor_lt32 (rotr_lt l0) (rotr_lt l0)) (by omega)]; rfl
          have f1 : bits .xor .u32 (bits .xor .u32 ((rotr x1 17 : Nat) : Int) ((rotr x1 19 : Nat) : Int)) ((x1 : Int) / 1024) = ((sg1 x1 : Nat) : Int) := by
            rw [u32_xor_nat _ _ (rotr_lt l1) (rotr_lt l1), show (x1 : Int) / 1024 = ((x1 / 1024 : Nat) : Int) from rfl, u32_xor_nat _ _ (xor_lt32 (rotr_lt l1) (rotr_lt l1)) (by omega)]; rfl
          have s0 := sg0_lt l0
          have s1 := sg1_lt l1
          generalize sg0 x0 = y0 at *
          generalize sg1 x1 = y1 at *
          go_wp2
          go_quiet (fail)
          go_wp2_with fail
          refine (rot32_any x0 7 _ l0 (by decide) (by decide)).mono ?_
          rintro e w' ⟨rfl, rfl⟩
          go_wp2_with fail
          refine (rot32_any x0 18 _ l0 (by decide) (by decide)).mono ?_
          rintro e w' ⟨rfl, rfl⟩
          go_wp2_with fail
          refine (rot32_any x1 17 _ l1 (by decide) (by decide)).mono ?_
          rintro e w' ⟨rfl, rfl⟩
          go_wp2_with fail
          refine (rot32_any x1 19 _ l1 (by decide) (by decide)).mono ?_
          rintro e w' ⟨rfl, rfl⟩
          generalize rotr x0 7 = r0 at *
          generalize rotr x0 18 = r1 at *
          generalize rotr x1 17 = r2 at *
          generalize rotr x1 19 = r3 at *
          go_wp2
          go_region
          go_wp2
          go_roundw
          case rel => exact ⟨k + 1, by omega, by omega, by go_num, hW.set (by omega) (by rw [HST.out]; omega), hZ.block (heap_setCell_other _ _ _ _ (by simp)), ((below_drewN hb _).setCell (by simp) _)⟩
          case measure => simp [intOf]; omega
        · have e64 : k = 64 := by omega
          rw [e64] at hW
          clear e64
          obtain ⟨cs, hcs, hsz, hcf⟩ := hW
          obtain ⟨zs, hzs, hzz, _⟩ := hZ
          have hcl : ∀ (j : Nat) v, cs.toList[j]? = some v → wr.cell? ⟨w.heap.size + 1, 0 + j, none⟩ = some v := by
            intro j v hv; rw [cell_blk hcs, Nat.zero_add]; simpa using hv
          have h1c : ∀ v ∈ cs.toList, v.oneCell' = true := by
            intro v hv
            obtain ⟨i, hi, e⟩ := List.getElem_of_mem hv
            have := hcf i (by simp at hi; omega)
            rw [Array.getElem?_eq_getElem (by simpa using hi)] at this
            have e2 : cs[i]'(by simpa using hi) = v := by simpa using e
            rw [e2] at this
            injection this with this; rw [this]; rfl
          have hil : (Tryd.prog.info? 84).map (·.size) = some cs.toList.length := by rw [Array.length_toList, hsz]; kernel_rfl
          have HCL := Lib.hid hcl; clear hcl
          have H1 := Lib.hid h1c; clear h1c
          have HIL := Lib.hid hil; clear hil
          have HSZ := Lib.hid hsz; clear hsz
          have HZZ := Lib.hid hzz; clear hzz
          have HCF := Lib.hid hcf; clear hcf
          have HCS := Lib.hid hcs; clear hcs
          have HZS := Lib.hid hzs; clear hzs
          obtain ⟨cl, hcl⟩ : ∃ cl, cl = cs.toList := ⟨_, rfl⟩
          rw [← hcl] at HCL H1 HIL
          have HC := Lib.hid hcl; clear hcl
          go_wp2_with (first
            | (refine wpList_load_agg (o := ⟨some 92, _, _, _, _, _⟩) ?_ 84 (.tmp 3) ?_ (w.heap.size + 1) 0 ?_ cl ?_ ?_ ?_ ?_; rfl; rfl; rfl; kernel_rfl; exact HIL.out; exact HCL.out)
            | (refine wpList_store_agg (o := ⟨none, _, _, _, _, _⟩) ?_ 84 (.tmp 2) (.tmp 92) ?_ w.heap.size 0 cl ?_ ?_ 84 zs HZS.out HIL.out ?_ H1.out ?_; rfl; rfl; rfl; rfl; (rw [HC.out, Array.length_toList, HSZ.out, HZZ.out]; decide); intro w4 hg4 hm4 hs4)
            | fail)
          have hg5 : w4.heap[w.heap.size]? = some (.cells cs 84 (0, 0)) := by
            rw [hg4, HC.out]
            congr 2
            simp [spl, splice, HSZ.out, HZZ.out, List.drop_eq_nil_of_le]
          have HG5 := Lib.hid hg5; clear hg5 hg4 hs4
          refine bodyPost_cell rfl w.heap.size 84 cs rfl HG5.out (by kernel_rfl) (by rw [HSZ.out]; kernel_rfl) rfl ⟨cs, rfl, HSZ.out, HCF.out, hb.trans (hm4.belowB (by have := hb.size; omega) (fun k hk e => by omega))⟩
end
end Go.Proofs.YtmgjlldccmgpcaaDoor
