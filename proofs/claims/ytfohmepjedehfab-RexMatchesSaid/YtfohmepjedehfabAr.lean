/-
  A rune's bytes appended; a rune written to a builder.
-/
import Derived.Test.YtfohmepjedehfabBsr
import Derived.Test.YtfohmepjedehfabRd6
import Derived.Test.YtfohmepjedehfabQj
namespace Go.Proofs.Ytfohmepjedehfab
set_option linter.unusedVariables false
set_option linter.unusedSimpArgs false
open Go.RowKit
theorem enc_cells (c : Nat) : (enc (c : Int)).map Bv = (Lib.encodeRuneZ (c : Int)).map (Value.int .u8) := Lib.byteCells_encodeRune (c : Int)
theorem enc_len4 (c : Int) : (enc c).length ≤ 4 := by
  unfold enc Lib.encodeRune Lib.encodeRuneZ
  rw [List.length_map]
  repeat' split
  all_goals simp
def ArOut (B : Nat) (v : Value) (n : Nat) (xs : List Value) (c : Nat) (w : World) (e : Ending) (w' : World) : Prop := ∃ v', e = .returned v' ∧ w'.ownsRow B 5 1 v' (n + (enc (c : Int)).length) (xs ++ (enc (c : Int)).map Bv) ∧ Mv (fun k => v.ownBlock = some k) w w'
theorem ArOut.mk' {B : Nat} {v v' : Value} {n : Nat} {xs ys : List Value} {c k : Nat} {w w' : World} {x : Obj} (hz : (Lib.encodeRuneZ (c : Int)).map (Value.int .u8) = ys) (hk : ys.length = k) (ho : w'.ownsRow B 5 1 v' (n + k) (xs ++ ys)) (hg : (w.alloc x).grownBy w' v.ownBlock) : ArOut B v n xs c w (.returned v') w' := by
  have hl : (enc (c : Int)).length = k := by
    have := congrArg List.length (enc_cells c)
    rw [List.length_map, hz] at this
    omega
  refine ⟨v', rfl, by rw [hl, enc_cells, hz]; exact ho, ?_⟩
  exact ((Mv.refl (fun k => v.ownBlock = some k) w).alloc x).grown hg fun _ _ h => h
section
set_option maxHeartbeats 3200000
set_option maxRecDepth 100000
theorem arn_two (B : Nat) (v : Value) (n : Nat) (xs : List Value) (c : Nat) (h0 : 128 ≤ c) (h1 : c ≤ 2047) (w : World) (hown : w.ownsRow B 5 1 v n xs) (hl : n ≤ 1000000) (hB : B ≤ w.heap.size) :
    Calls Try.prog 81 #[v, .int .i32 (c : Nat)] w (ArOut B v n xs c w) := by
  have g0 : (c : Int) ≤ 2047 := by omega
  have hz := Lib.encodeRuneZ_two (r := (c : Int)) (by omega) (by omega)
  have HZ := Lib.hid hz; clear hz
  go_enter Try.func81, Try.ntmps81
  go_wp2_with (first
    | (at_builtin; (refine wpList_append_g rfl _ _ 95 5 (.int .u8 0) 1 1 infoU8 Try.underlying95 rfl (by decide) rfl B v n xs rfl (hown.alloc _) _ 2 2 [.int .u8 (192 + (c : Int) / 64), .int .u8 (128 + (c : Int) % 64)] rfl (rd_row _ _ 5) rfl (by simp [Value.oneCell']) (by unfold maxLen; omega) (by omega) (by simp; omega) ?_; intro v4 w4 ho4 hg4; have HO4 := Lib.hid (ArOut.mk' (c := c) (by rw [HZ.out]; rfl) rfl ho4 hg4); clear ho4 hg4))
    | fail)
  go_ret
  exact HO4.out
theorem arn_threea (B : Nat) (v : Value) (n : Nat) (xs : List Value) (c : Nat) (h0 : 2048 ≤ c) (h1 : c ≤ 65535) (hs : c < 55296) (w : World) (hown : w.ownsRow B 5 1 v n xs) (hl : n ≤ 1000000) (hB : B ≤ w.heap.size) :
    Calls Try.prog 81 #[v, .int .i32 (c : Nat)] w (ArOut B v n xs c w) := by
  have g0 : ¬ (c : Int) ≤ 2047 := by omega
  have g1 : (c : Int) ≤ 65535 := by omega
  have g2 : (c : Int) < 55296 := by omega
  have hz := Lib.encodeRuneZ_three (r := (c : Int)) (by omega)
  have HZ := Lib.hid hz; clear hz
  go_enter Try.func81, Try.ntmps81
  go_wp2_with (first
    | (at_builtin; (refine wpList_append_g rfl _ _ 95 5 (.int .u8 0) 1 1 infoU8 Try.underlying95 rfl (by decide) rfl B v n xs rfl (hown.alloc _) _ 3 3 [.int .u8 (224 + (c : Int) / 4096), .int .u8 (128 + (c : Int) / 64 % 64), .int .u8 (128 + (c : Int) % 64)] rfl (rd_row _ _ 5) rfl (by simp [Value.oneCell']) (by unfold maxLen; omega) (by omega) (by simp; omega) ?_; intro v4 w4 ho4 hg4; have HO4 := Lib.hid (ArOut.mk' (c := c) (by rw [HZ.out]; rfl) rfl ho4 hg4); clear ho4 hg4))
    | fail)
  go_ret
  exact HO4.out
theorem arn_threeb (B : Nat) (v : Value) (n : Nat) (xs : List Value) (c : Nat) (h0 : 2048 ≤ c) (h1 : c ≤ 65535) (hs : 57343 < c) (w : World) (hown : w.ownsRow B 5 1 v n xs) (hl : n ≤ 1000000) (hB : B ≤ w.heap.size) :
    Calls Try.prog 81 #[v, .int .i32 (c : Nat)] w (ArOut B v n xs c w) := by
  have g0 : ¬ (c : Int) ≤ 2047 := by omega
  have g1 : (c : Int) ≤ 65535 := by omega
  have g2 : ¬ (c : Int) < 55296 := by omega
  have g3 : (57343 : Int) < (c : Int) := by omega
  have hz := Lib.encodeRuneZ_three (r := (c : Int)) (by omega)
  have HZ := Lib.hid hz; clear hz
  go_enter Try.func81, Try.ntmps81
  go_wp2_with (first
    | (at_builtin; (refine wpList_append_g rfl _ _ 95 5 (.int .u8 0) 1 1 infoU8 Try.underlying95 rfl (by decide) rfl B v n xs rfl (hown.alloc _) _ 3 3 [.int .u8 (224 + (c : Int) / 4096), .int .u8 (128 + (c : Int) / 64 % 64), .int .u8 (128 + (c : Int) % 64)] rfl (rd_row _ _ 5) rfl (by simp [Value.oneCell']) (by unfold maxLen; omega) (by omega) (by simp; omega) ?_; intro v4 w4 ho4 hg4; have HO4 := Lib.hid (ArOut.mk' (c := c) (by rw [HZ.out]; rfl) rfl ho4 hg4); clear ho4 hg4))
    | fail)
  go_ret
  exact HO4.out
theorem arn_four (B : Nat) (v : Value) (n : Nat) (xs : List Value) (c : Nat) (h0 : 65536 ≤ c) (h1 : c ≤ 1114111) (w : World) (hown : w.ownsRow B 5 1 v n xs) (hl : n ≤ 1000000) (hB : B ≤ w.heap.size) :
    Calls Try.prog 81 #[v, .int .i32 (c : Nat)] w (ArOut B v n xs c w) := by
  have g0 : ¬ (c : Int) ≤ 2047 := by omega
  have g1 : ¬ (c : Int) ≤ 65535 := by omega
  have g2 : ¬ (c : Int) < 55296 := by omega
  have g3 : (57343 : Int) < (c : Int) := by omega
  have g4 : (65535 : Int) < (c : Int) := by omega
  have g5 : (c : Int) ≤ 1114111 := by omega
  have hz := Lib.encodeRuneZ_four (r := (c : Int)) (by omega) (by omega)
  have HZ := Lib.hid hz; clear hz
  go_enter Try.func81, Try.ntmps81
  go_wp2_with (first
    | (at_builtin; (refine wpList_append_g rfl _ _ 95 5 (.int .u8 0) 1 1 infoU8 Try.underlying95 rfl (by decide) rfl B v n xs rfl (hown.alloc _) _ 4 4 [.int .u8 (240 + (c : Int) / 262144), .int .u8 (128 + (c : Int) / 4096 % 64), .int .u8 (128 + (c : Int) / 64 % 64), .int .u8 (128 + (c : Int) % 64)] rfl (rd_row _ _ 5) rfl (by simp [Value.oneCell']) (by unfold maxLen; omega) (by omega) (by simp; omega) ?_; intro v4 w4 ho4 hg4; have HO4 := Lib.hid (ArOut.mk' (c := c) (by rw [HZ.out]; rfl) rfl ho4 hg4); clear ho4 hg4))
    | fail)
  go_ret
  exact HO4.out
theorem ar_one (B : Nat) (v : Value) (n : Nat) (xs : List Value) (c : Nat) (h1 : c ≤ 127) (w : World) (hown : w.ownsRow B 5 1 v n xs) (hl : n ≤ 1000000) (hB : B ≤ w.heap.size) :
    Calls Try.prog 70 #[v, .int .i32 (c : Nat)] w (ArOut B v n xs c w) := by
  have g0 : (c : Int) ≤ 127 := by omega
  have hz := Lib.encodeRuneZ_one (r := (c : Int)) (by omega) (by omega)
  have HZ := Lib.hid hz; clear hz
  go_enter Try.func70, Try.ntmps70
  go_wp2_with (first
    | (at_builtin; (refine wpList_append_g rfl _ _ 95 5 (.int .u8 0) 1 1 infoU8 Try.underlying95 rfl (by decide) rfl B v n xs rfl (hown.alloc _) _ 1 1 [.int .u8 (c : Int)] rfl (rd_row _ _ 5) rfl (by simp [Value.oneCell']) (by unfold maxLen; omega) (by omega) (by simp; omega) ?_; intro v4 w4 ho4 hg4; have HO4 := Lib.hid (ArOut.mk' (c := c) (by rw [HZ.out]; rfl) rfl ho4 hg4); clear ho4 hg4))
    | fail)
  go_ret
  exact HO4.out
theorem arn_any (B : Nat) (v : Value) (n : Nat) (xs : List Value) (c : Nat) (h0 : 128 ≤ c) (h : okRune (c : Int)) (w : World) (hown : w.ownsRow B 5 1 v n xs) (hl : n ≤ 1000000) (hB : B ≤ w.heap.size) :
    Calls Try.prog 81 #[v, .int .i32 (c : Nat)] w (ArOut B v n xs c w) := by
  unfold okRune at h
  by_cases h1 : c ≤ 2047
  · exact arn_two B v n xs c h0 h1 w hown hl hB
  · by_cases h2 : c ≤ 65535
    · by_cases h3 : c < 55296
      · exact arn_threea B v n xs c (by omega) h2 h3 w hown hl hB
      · exact arn_threeb B v n xs c (by omega) h2 (by omega) w hown hl hB
    · exact arn_four B v n xs c (by omega) (by omega) w hown hl hB
theorem ar_any (B : Nat) (v : Value) (n : Nat) (xs : List Value) (c : Nat) (h : okRune (c : Int)) (w : World) (hown : w.ownsRow B 5 1 v n xs) (hl : n ≤ 1000000) (hB : B ≤ w.heap.size) :
    Calls Try.prog 70 #[v, .int .i32 (c : Nat)] w (ArOut B v n xs c w) := by
  by_cases h1 : c ≤ 127
  · exact ar_one B v n xs c h1 w hown hl hB
  · have HN := Lib.hid (arn_any B v n xs c (by omega) h w hown hl hB)
    have g0 : ¬ (c : Int) ≤ 127 := by omega
    have g1 : (0 : Int) ≤ (c : Int) := by omega
    have g2 : (c : Int) ≤ 1114111 := by unfold okRune at h; omega
    clear h hown
    go_enter Try.func70, Try.ntmps70
    go_wp2_with fail
    refine HN.out.mono ?_
    rintro e w1 ⟨v', rfl, h1, h2⟩
    go_wp2
    go_ret
    exact ⟨v', rfl, h1, h2⟩
theorem own_iter {w : World} {B : Nat} {e : TypeId} {size n g pos : Nat} {v : Value} {xs : List Value} {s : ByteArray} (h : w.ownsRow B e size v n xs) (hi : w.heap[g]? = some (.stringIter s pos)) : v.ownBlock ≠ some g := by
  rcases h.2 with ⟨rfl, _⟩ | ⟨g', cap, cur, rfl, _, hh, _⟩
  · simp [Value.ownBlock]
  · intro he
    have : g' = g := by simpa [Value.ownBlock] using he
    subst this
    rw [hi] at hh; cases hh
theorem kept_row {w w' : World} {B size n : Nat} {v : Value} {xs : List Value} {b : Option Nat} (h : w.ownsRow B 5 size v n xs) (m : Mv (fun k => v.ownBlock = some k) w w') : Lib.OthersKept 5 b w w' := fun k o hk hb ho => by
  refine (m.block k (blk_lt hk) fun e => ?_).trans hk
  rcases h.2 with ⟨rfl, _⟩ | ⟨g', cap, cur, rfl, _, hh, _⟩
  · simp [Value.ownBlock] at e
  · have : g' = k := by simpa [Value.ownBlock] using e
    subst this
    rw [hk] at hh
    injection hh with hh
    exact ho _ _ hh
theorem wru_k (B b c : Nat) (xs : List UInt8) (w : World) (h : Bld B b xs w) (hB : B ≤ w.heap.size) (hc : okRune (c : Int)) (hl : xs.length ≤ 1000000) :
    Calls Try.prog 50 #[.pointer (some ⟨b, 0, none⟩), .int .i32 (c : Nat)] w fun e w' => ∃ k : Int, e = .returned (.tuple #[.int .i64 k, .nilIface]) ∧ Bld B b (xs ++ enc (c : Int)) w' ∧ RowKit.Below B w w' ∧ (∀ (g : Nat) (s' : ByteArray) (pos : Nat), g ≠ b → w.heap[g]? = some (.stringIter s' pos) → w'.heap[g]? = some (.stringIter s' pos)) ∧ Lib.OthersKept 5 (some b) w w' := by
  have hck := check_any B b xs w h
  clear h
  have HC := Lib.hid hck; clear hck
  go_enter Try.func50, Try.ntmps50
  go_wp2_with fail
  refine HC.out.mono ?_
  rintro e w1 ⟨rfl, h1, hb1, hs1, hk1⟩
  obtain ⟨hBb, v, hbk, hown, hv⟩ := h1
  rw [List.length_map] at hown
  obtain ⟨A1, c1v, rfl, -, -, -⟩ := own_rdg hown
  have c0 := cell_blk hbk 0
  have c1 := cell_blk hbk 1
  simp only [List.getElem?_toArray, List.getElem?_cons_zero, List.getElem?_cons_succ] at c0 c1
  have hne := own_blk hown hbk (by decide)
  have hbl := blk_lt hbk
  have HAR := Lib.hid (ar_any B _ xs.length (xs.map Bv) c hc w1 hown hl (by omega))
  have HB := Lib.hid hbk; have HNE := Lib.hid hne; have HB1 := Lib.hid hb1
  have HOL := Lib.hid (fun k e => (hown.lt k e).1)
  have HIT := Lib.hid (fun (g : Nat) (s' : ByteArray) (pos : Nat) (hgb : g ≠ b) (hi : w.heap[g]? = some (.stringIter s' pos)) => (⟨hk1.iter hi hgb, own_iter hown (hk1.iter hi hgb)⟩ : w1.heap[g]? = some (.stringIter s' pos) ∧ (Value.slice A1 xs.length c1v).ownBlock ≠ some g))
  have HOK := Lib.hid hk1; have HROW := Lib.hid hown
  clear hown hbk hne hb1 hk1 hv hs1
  go_wp2_with fail
  refine HAR.out.mono ?_
  rintro e w2 ⟨v2, rfl, ho2, hm2⟩
  obtain ⟨A2, c2v, rfl, -, -, -⟩ := own_rdg ho2
  have hb2 := (hm2.block _ hbl HNE.out).trans HB.out
  have d1 := cell_blk hb2 1
  have f1 := free_blk hb2 1
  simp only [List.getElem?_toArray, List.getElem?_cons_zero, List.getElem?_cons_succ] at d1
  have hne2 := own_blk ho2 hb2 (by decide)
  obtain ⟨w3, hw3⟩ : ∃ w3, w3 = w2.setCell ⟨b, 1, none⟩ (.slice A2 (xs.length + (enc (c : Int)).length) c2v) := ⟨_, rfl⟩
  have hrow : w3.ownsRow B 5 1 (.slice A2 (xs.length + (enc (c : Int)).length) c2v) (xs.length + (enc (c : Int)).length) (xs.map Bv ++ (enc (c : Int)).map Bv) :=
    own_moved ho2 (fun g hg => by rw [hw3]; exact heap_setCell_other _ _ _ _ (fun e => hne2 (by rw [hg, e])))
  have hset := set_blk hb2 1 (.slice A2 (xs.length + (enc (c : Int)).length) c2v)
  rw [← hw3] at hset
  have hbel : RowKit.Below B w w3 := by
    rw [hw3]
    exact (HB1.out.trans (hm2.belowB (by have := HB1.out.size; omega) fun k hk e => by have := HOL.out k e; omega)).setCell (p := ⟨b, 1, none⟩) hBb _
  have HF := Lib.hid (show Bld B b (xs ++ enc (c : Int)) w3 ∧ RowKit.Below B w w3 ∧ (∀ (g : Nat) (s' : ByteArray) (pos : Nat), g ≠ b → w.heap[g]? = some (.stringIter s' pos) → w3.heap[g]? = some (.stringIter s' pos)) ∧ Lib.OthersKept 5 (some b) w w3 from ⟨.inr ⟨hBb, .slice A2 (xs.length + (enc (c : Int)).length) c2v, by simpa using hset, by rw [List.map_append, List.length_append, List.length_map, List.length_map]; exact hrow, hne2⟩, hbel, fun g s' pos hgb hi => by
    obtain ⟨i1, i2⟩ := HIT.out g s' pos hgb hi
    rw [hw3, heap_setCell_other _ _ _ _ hgb]
    exact (hm2.block g (blk_lt i1) i2).trans i1, HOK.out.trans (by rw [hw3]; exact (kept_row HROW.out hm2).setCell ⟨b, 1, none⟩ rfl _)⟩)
  have HW3 := Lib.hid hw3
  clear hw3 hrow hset hbel hne2 ho2 hm2 hb2 HAR HC
  have hle := enc_len4 (c : Int)
  generalize (enc (c : Int)).length = q at HW3 hle
  clear c0 c1
  go_wp2
  rw [← HW3.out]
  go_ret2
  exact ⟨_, rfl, HF.out⟩
end
end Go.Proofs.Ytfohmepjedehfab
