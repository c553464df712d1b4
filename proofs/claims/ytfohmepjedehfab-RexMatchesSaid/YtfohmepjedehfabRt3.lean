/-
  Which texts a pattern matches.
-/
import Derived.Test.YtfohmepjedehfabRt2
import Derived.Test.YtfohmepjedehfabGl
import Derived.ChangeKeysEq
namespace Go.Proofs.Ytfohmepjedehfab
set_option linter.unusedVariables false
set_option linter.unusedSimpArgs false
open Go.RowKit
/-- A set within the atoms. -/
def Bits (x : Nat) : Prop := ∀ i, x.testBit i = true → i < 256
theorem bits_zero {x : Nat} (h : Bits x) (h0 : wd x 0 = 0) (h1 : wd x 1 = 0) (h2 : wd x 2 = 0) (h3 : wd x 3 = 0) : x = 0 := by
  apply Nat.eq_of_testBit_eq
  intro i
  rw [Nat.zero_testBit]
  cases hb : x.testBit i with
  | false => rfl
  | true =>
    have hi := h i hb
    have hk : i / 64 < 4 := by omega
    have hw : wd x (i / 64) = 0 := by
      match i / 64, hk with
      | 0, _ => exact h0
      | 1, _ => exact h1
      | 2, _ => exact h2
      | 3, _ => exact h3
    have := wd_bit x (i / 64) (i % 64)
    rw [hw, Nat.zero_testBit, show 64 * (i / 64) + i % 64 = i from Nat.div_add_mod i 64, hb] at this
    simp at this
    omega
theorem comp_bits (t : Re) (h : (compP t []).2.length ≤ 256) : Bits (compP t []).1.first ∧ ∀ (i : Nat) (a : Atm), (compP t []).2[i]? = some a → Bits a.next := by
  obtain ⟨g, _⟩ := comp_gl t []
  refine ⟨fun i hi => by have := (g.first i hi).2; omega, fun i a ha j hj => ?_⟩
  have := (g.closed i j (Nat.zero_le _) ⟨a, ha, hj⟩).2
  omega
theorem step_bits (next last : Nat) (c : Int) (A : List Atm) (h : ∀ (i : Nat) (a : Atm), A[i]? = some a → Bits a.next) : Bits (stepF next last c 0 A (0, false)).1 := by
  intro k hk
  rcases ((stepF_spec next last c A 0 (0, false)).1 k).1 hk with e | ⟨d, a, ha, _, _, hb⟩
  · simp at e
  · exact h d a ha k hb
theorem eq_set (a b c d : Int) (w : World) : (Op.equalIn 10000 83 (.agg #[.int .u64 a, .int .u64 b, .int .u64 c, .int .u64 d]) (.agg #[.int .u64 0, .int .u64 0, .int .u64 0, .int .u64 0])).run Try.prog w = .ok (decide (a = 0 ∧ b = 0 ∧ c = 0 ∧ d = 0)) w := by
  have hc : Try.prog.cellsOf 23 = 1 := by kernel_rfl
  obtain ⟨i0, hi, _⟩ := info_g (show (Try.prog.info? 23).map (fun i => (i.zero, i.size, i.bytes)) = some (some (.int .u64 0), 1, 8) from by kernel_rfl)
  rw [run_equalIn_array (d := 9999) (w := w) _ _ Try.underlying83 hi, hc]
  simp [List.range, List.range.loop, Op.eqItems, go_sem]
  by_cases h0 : a = 0 <;> by_cases h1 : b = 0 <;> by_cases h2 : c = 0 <;> by_cases h3 : d = 0 <;> simp [h0, h1, h2, h3]
section
set_option maxHeartbeats 3200000
set_option maxRecDepth 100000
theorem match_nil (s : ByteArray) (w : World) : Calls Try.prog 26 #[.pointer none, .string s] w fun e w' => e = .returned (.bool false) ∧ w' = w := by
  go_enter Try.func26, Try.ntmps26
  go_wp2
  go_ret
  exact ⟨rfl, rfl⟩
theorem match_zero (s : ByteArray) (b : Nat) (w : World) (h : w.cell? ⟨b, 0, none⟩ = some (.bool false)) : Calls Try.prog 26 #[.pointer (some ⟨b, 0, none⟩), .string s] w fun e w' => e = .returned (.bool false) ∧ w' = w := by
  go_enter Try.func26, Try.ntmps26
  go_wp2
  go_ret
  exact ⟨rfl, rfl⟩
/-- A match under way: the set in block g5, the iterator behind it. -/
structure MaIs (w wr : World) (s : ByteArray) (x pos : Nat) : Prop where
  box : wr.heap[w.heap.size]? = some (.cells (setL x).toArray 83 (0, 0))
  it : wr.heap[w.heap.size + 1]? = some (.stringIter s pos)
  below : RowKit.Below w.heap.size w wr
  le : pos ≤ s.size
  bits : Bits x
theorem MaIs.set {w w3 : World} {s : ByteArray} {x x2 pos : Nat} (h1 : w3.heap[w.heap.size]? = some (.cells (setL x).toArray 83 (0, 0))) (h2 : w3.heap[w.heap.size + 1]? = some (.stringIter s pos)) (h3 : RowKit.Below w.heap.size w w3) (hle : pos ≤ s.size) (hb : Bits x2) :
    MaIs w ((((w3.setCell ⟨w.heap.size, 0, none⟩ (.int .u64 (wd x2 0 : Nat))).setCell ⟨w.heap.size, 1, none⟩ (.int .u64 (wd x2 1 : Nat))).setCell ⟨w.heap.size, 2, none⟩ (.int .u64 (wd x2 2 : Nat))).setCell ⟨w.heap.size, 3, none⟩ (.int .u64 (wd x2 3 : Nat))) s x2 pos := by
  have k := set_blk (set_blk (set_blk (set_blk h1 0 (.int .u64 (wd x2 0 : Nat))) 1 (.int .u64 (wd x2 1 : Nat))) 2 (.int .u64 (wd x2 2 : Nat))) 3 (.int .u64 (wd x2 3 : Nat))
  have m : Mv (fun k => k = w.heap.size) w3 ((((w3.setCell ⟨w.heap.size, 0, none⟩ (.int .u64 (wd x2 0 : Nat))).setCell ⟨w.heap.size, 1, none⟩ (.int .u64 (wd x2 1 : Nat))).setCell ⟨w.heap.size, 2, none⟩ (.int .u64 (wd x2 2 : Nat))).setCell ⟨w.heap.size, 3, none⟩ (.int .u64 (wd x2 3 : Nat))) :=
    ((((Mv.refl (fun k => k = w.heap.size) w3).setCell (p := ⟨w.heap.size, 0, none⟩) (fun _ => rfl) _).setCell (p := ⟨w.heap.size, 1, none⟩) (fun _ => rfl) _).setCell (p := ⟨w.heap.size, 2, none⟩) (fun _ => rfl) _).setCell (p := ⟨w.heap.size, 3, none⟩) (fun _ => rfl) _
  exact ⟨by simpa [setL] using k, (m.block _ (blk_lt h2) (by omega)).trans h2, h3.trans (m.belowB h3.size fun k hk e => by omega), hle, hb⟩
theorem match_any (b : Nat) (st : ByteArray) (t : Re) (s : ByteArray) (w : World) (h : RexIs w b st t) :
    Calls Try.prog 26 #[.pointer (some ⟨b, 0, none⟩), .string s] w fun e w' => e = .returned (.bool (matchP (compP t []).1 (compP t []).2 (runesB (bl s)))) ∧ RowKit.Below w.heap.size w w' := by
  obtain ⟨T, hT⟩ : ∃ T, matchP (compP t []).1 (compP t []).2 (runesB (bl s)) = T := ⟨_, rfl⟩
  rw [hT]
  unfold matchP at hT
  obtain ⟨hbf, hba⟩ := comp_bits t h.few
  have HSTEP := Lib.hid (fun (x : Nat) (c : Int) (W : World) (m : RowKit.Below w.heap.size w W) => step_any b st t x c W (h.below m))
  have HSB := Lib.hid (fun (x : Nat) (c : Int) => step_bits x (compP t []).1.last c _ hba)
  obtain ⟨v, us, hbx, -⟩ := h.box
  obtain ⟨X, hX⟩ : ∃ X, (compP t []).1 = X := ⟨_, rfl⟩
  obtain ⟨A, hA⟩ : ∃ A, (compP t []).2 = A := ⟨_, rfl⟩
  rw [hX] at HSTEP HSB hbx hT hbf
  rw [hA] at HSTEP HSB hT
  have b0 := cell_blk hbx 0
  have b3 := cell_blk hbx 3; have b4 := cell_blk hbx 4; have b5 := cell_blk hbx 5; have b6 := cell_blk hbx 6; have b11 := cell_blk hbx 11
  simp only [rexC, List.getElem?_toArray, List.getElem?_cons_zero, List.getElem?_cons_succ] at b0 b3 b4 b5 b6 b11
  have hlt := blk_lt hbx
  have hbn1 : b ≠ w.heap.size := by omega
  have hbn2 : b ≠ w.heap.size + 1 := by omega
  have HT := Lib.hid hT; have HBF := Lib.hid hbf
  clear hT hbf hba hbx hX hA h
  obtain ⟨f, la, em⟩ := X
  simp only at b3 b4 b5 b6 b11 HT HBF HSTEP HSB
  go_enter Try.func26, Try.ntmps26
  go_wp2_with fail
  go_region
  all_goals go_wp2_with fail
  go_loopw [6] (fun s6 wr => ∃ (x pos : Nat) (en : Bool), s6 = .bool en ∧ Aside (MaIs w wr s x pos) ∧ Aside (matchF A la (runesB ((bl s).drop pos)) x en = T)) (fun _ wr => s.size - wr.iterPos (w.heap.size + 1))
  case atStart =>
    refine ⟨f, 0, em, rfl, ⟨?_, ?_, ?_, Nat.zero_le _, HBF.out⟩, by rw [List.drop_zero]; exact HT.out⟩
    · show ((w.alloc (.cells #[.int .u64 (wd f 0 : Nat), .int .u64 (wd f 1 : Nat), .int .u64 (wd f 2 : Nat), .int .u64 (wd f 3 : Nat)] 83)).drew.alloc (.stringIter s 0)).heap[w.heap.size]? = _
      rw [Below.heap_alloc _ _ _ (by show w.heap.size < (w.alloc _).heap.size; simp)]
      exact heap_alloc_new w _
    · have := World.iter_heap (w.alloc (.cells #[.int .u64 (wd f 0 : Nat), .int .u64 (wd f 1 : Nat), .int .u64 (wd f 2 : Nat), .int .u64 (wd f 3 : Nat)] 83)).drew s 0
      rw [show ((w.alloc (.cells #[.int .u64 (wd f 0 : Nat), .int .u64 (wd f 1 : Nat), .int .u64 (wd f 2 : Nat), .int .u64 (wd f 3 : Nat)] 83)).drew).heap.size = w.heap.size + 1 from by show (w.alloc _).heap.size = _; simp] at this
      exact this
    · exact (below_drew ((RowKit.Below.refl _ w).alloc (Nat.le_refl _) _)).alloc (by show w.heap.size ≤ (w.alloc _).heap.size; simp) _
  case round =>
    obtain ⟨x, pos, en, rfl, HK, HE⟩ := hrel
    have hit := HK.out.it
    have hle := HK.out.le
    by_cases hp : pos < s.size
    · have hne : (bl s).drop pos ≠ [] := by
        intro e
        have := congrArg List.length e
        rw [List.length_drop, bl_len] at this
        simp at this; omega
      have hdd : dL ((bl s).drop pos) = Utf8.decode s pos := Lib.decodeL_drop s pos
      have hE := HE.out
      rw [runesB_step hne, List.drop_drop] at hE
      obtain ⟨c, wd', hcw⟩ : ∃ c wd, dL ((bl s).drop pos) = (c, wd) := ⟨_, _, rfl⟩
      have hwd : 1 ≤ wd' := by have := dL_pos ((bl s).drop pos); rw [hcw] at this; exact this
      have hwl : pos + wd' ≤ s.size := by have := dL_le hne; rw [hcw, List.length_drop, bl_len] at this; simp only at this; omega
      rw [hcw] at hE
      simp only [matchF] at hE
      obtain ⟨w2, hw2⟩ : ∃ w2, w2 = wr.iterAt (w.heap.size + 1) s (pos + wd') := ⟨_, rfl⟩
      have hnx : ∀ ty, (Instr.next (.pointer (some ⟨w.heap.size + 1, 0, none⟩)) true ty).run Try.prog wr = .ok (.tuple #[.bool true, .int .i64 (pos : Nat), .int .i32 (c : Nat)]) w2 := fun ty => by
        rw [Lib.run_next_any_at wr (w.heap.size + 1) s pos ty hit hp, ← hdd, hcw, hw2]
      have hK2 : MaIs w w2 s x (pos + wd') := ⟨by rw [hw2, Lib.iterAt_other _ _ _ _ _ (by omega)]; exact HK.out.box, by rw [hw2]; exact Lib.iterAt_heap wr _ s pos _ hit, by rw [hw2]; exact Lib.below_iterAt HK.out.below (by omega) s _, hwl, HK.out.bits⟩
      have y0 := cell_blk hK2.box 0
      have y1 := cell_blk hK2.box 1
      have y2 := cell_blk hK2.box 2
      have y3 := cell_blk hK2.box 3
      simp only [setL, List.getElem?_toArray, List.getElem?_cons_zero, List.getElem?_cons_succ] at y0 y1 y2 y3
      have heq := eq_set (wd x 0 : Nat) (wd x 1 : Nat) (wd x 2 : Nat) (wd x 3 : Nat)
      have HKK := Lib.hid hK2; have HP := Lib.hid hp; have HIT := Lib.hid hit; have HWD := Lib.hid hwd
      clear hne hdd hcw hwd hwl hw2 hK2 hit
      by_cases hx : x = 0
      · subst hx
        rw [if_pos rfl] at hE
        have hz : ∀ u, (Op.equalIn 10000 83 (.agg #[.int .u64 (wd 0 0 : Nat), .int .u64 (wd 0 1 : Nat), .int .u64 (wd 0 2 : Nat), .int .u64 (wd 0 3 : Nat)]) (.agg #[.int .u64 0, .int .u64 0, .int .u64 0, .int .u64 0])).run Try.prog u = .ok true u := fun u => by rw [heq]; simp [wd]
        have HTT := Lib.hid hE
        clear heq hE
        go_wp2
        go_ret
        rw [← HTT.out]
        exact ⟨rfl, HKK.out.below⟩
      · rw [if_neg hx] at hE
        have hz : ∀ u, (Op.equalIn 10000 83 (.agg #[.int .u64 (wd x 0 : Nat), .int .u64 (wd x 1 : Nat), .int .u64 (wd x 2 : Nat), .int .u64 (wd x 3 : Nat)]) (.agg #[.int .u64 0, .int .u64 0, .int .u64 0, .int .u64 0])).run Try.prog u = .ok false u := fun u => by
          rw [heq]
          congr 1
          rw [decide_eq_false]
          rintro ⟨e0, e1, e2, e3⟩
          exact hx (bits_zero HKK.out.bits (by omega) (by omega) (by omega) (by omega))
        have HE2 := Lib.hid hE
        have HS := Lib.hid (HSTEP.out x (c : Int) w2 HKK.out.below)
        have HBI := Lib.hid (HSB.out x (c : Int))
        unfold setV setL at HS
        clear heq hE HE hx
        obtain ⟨R2, hR2⟩ : ∃ R2, stepF x la (c : Int) 0 A (0, false) = R2 := ⟨_, rfl⟩
        rw [hR2] at HS HE2 HBI
        clear hR2
        obtain ⟨x2, en2⟩ := R2
        simp only at HS HE2 HBI
        go_wp2_with fail
        refine HS.out.mono ?_
        rintro e w3 ⟨rfl, hb3⟩
        have hb7 := (hb3.block _ (blk_lt HKK.out.box)).trans HKK.out.box
        have hi7 := (hb3.block _ (blk_lt HKK.out.it)).trans HKK.out.it
        have z0 := cell_blk hb7 0
        have z1 := cell_blk hb7 1
        have z2 := cell_blk hb7 2
        have z3 := cell_blk hb7 3
        have zf := fun i => free_blk hb7 i
        simp only [setL, List.getElem?_toArray, List.getElem?_cons_zero, List.getElem?_cons_succ] at z0 z1 z2 z3
        have HB7 := Lib.hid hb7; have HI7 := Lib.hid hi7; have HBB := Lib.hid (HKK.out.below.trans (hb3.mono HKK.out.below.size))
        clear hb7 hi7 hb3 y0 y1 y2 y3
        have hset := MaIs.set HB7.out HI7.out HBB.out HKK.out.le HBI.out
        have HSET := Lib.hid hset
        clear hset
        go_wp2
        go_roundw
        case rel => exact ⟨x2, _, en2, rfl, HSET.out, HE2.out⟩
        case measure =>
          have i1 := HSET.out.it
          have i2 := HIT.out
          have i3 := HWD.out
          have i4 := HP.out
          simp only [World.iterPos, i1, i2]
          omega
    · obtain rfl : pos = s.size := by omega
      have hnx : ∀ ty, (Instr.next (.pointer (some ⟨w.heap.size + 1, 0, none⟩)) true ty).run Try.prog wr = .ok (.tuple #[.bool false]) wr := fun ty => Lib.run_next_end_at wr (w.heap.size + 1) s _ ty hit hp
      have hE := HE.out
      rw [List.drop_eq_nil_of_le (by rw [bl_len]; exact Nat.le_refl _), runesB_nil] at hE
      have HTT := Lib.hid (show en = T from hE)
      clear hE HE hit
      go_wp2
      go_ret
      rw [HTT.out]
      exact ⟨rfl, HK.out.below⟩
end
end Go.Proofs.Ytfohmepjedehfab
