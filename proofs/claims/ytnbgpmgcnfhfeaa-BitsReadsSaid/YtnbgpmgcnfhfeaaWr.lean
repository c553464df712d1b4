
/-
  Rows of bits, written.
-/
import Derived.Test.YtnbgpmgcnfhfeaaGen
import Derived.Test.YtnbgpmgcnfhfeaaRow
import Derived.Deep.DeepCutAuto
import Derived.Deep.CutRange
import Derived.BigRegion
namespace Go.Proofs.Ytnbgpmgcnfhfeaa
set_option linter.unusedVariables false
set_option linter.unusedSimpArgs false
open Go.RowKit

/-- Behind an append onto the row, the blocks p and q stand as they stood. -/
theorem past_append {W W0 w1 : World} {p q : Nat} {v : Value} {cp cq : Array Value} {tp tq : TypeId} {e size k : Nat} {xs : List Value} {base : Nat}
    (hv : W.ownsRow base e size v k xs) (hp : W.heap[p]? = some (.cells cp tp (0, 0))) (hq : W.heap[q]? = some (.cells cq tq (0, 0))) (htp : e ≠ tp) (htq : e ≠ tq)
    (hg : W0.grownBy w1 v.ownBlock) (hW : ∀ i, i < W.heap.size → W0.heap[i]? = W.heap[i]?) (hs : W.heap.size ≤ W0.heap.size) :
    w1.heap[p]? = some (.cells cp tp (0, 0)) ∧ w1.heap[q]? = some (.cells cq tq (0, 0)) := by
  have hpl := blk_lt hp
  have hql := blk_lt hq
  exact ⟨by rw [hg.block p (by omega) (fun e => own_blk hv hp htp e.symm), hW p hpl, hp], by rw [hg.block q (by omega) (fun e => own_blk hv hq htq e.symm), hW q hql, hq]⟩


/-- Block p is a Writer whose row v holds the bits l. -/
def Wis (w : World) (p : Nat) (v : Value) (l : List Bool) : Prop :=
  w.heap[p]? = some (.cells #[.bool true, v, .int .i64 (l.length : Nat)] 54 (0, 0)) ∧ w.ownsRow 0 5 1 v (bytesOf l).length ((bytesOf l).map Bv)
/-- The Writer p, whose row was v in W, holds the bits l in w'; else nothing that was in W has moved. -/
def Put1 (W w' : World) (p : Nat) (v : Value) (l : List Bool) : Prop :=
  ∃ v', Wis w' p v' l ∧ Mv (fun i => i = p ∨ v.ownBlock = some i) W w' ∧ (∀ i, i < W.heap.size → v'.ownBlock = some i → v.ownBlock = some i)
theorem Put1.drew {W w' : World} {p : Nat} {v : Value} {l : List Bool} (h : Put1 W w' p v l) : Put1 W w'.drew p v l := by
  obtain ⟨v', h1, h2, h3⟩ := h
  exact ⟨v', h1, h2.drew, h3⟩
/-- Between: the row has its last byte. -/
def Mid (W w' : World) (p q : Nat) (v : Value) (l : List Bool) : Prop :=
  ∃ g cap, w'.heap[q]? = some (.cells #[.pointer (some ⟨p, 0, none⟩)] 39 (0, 0)) ∧
    w'.heap[p]? = some (.cells #[.bool true, .slice (some ⟨g, 0, none⟩) (extB l).length cap, .int .i64 (l.length : Nat)] 54 (0, 0)) ∧
    w'.ownsRow 0 5 1 (.slice (some ⟨g, 0, none⟩) (extB l).length cap) (extB l).length ((extB l).map Bv) ∧
    Mv (fun i => i = p ∨ v.ownBlock = some i) W w' ∧ (g < W.heap.size → v.ownBlock = some g)

theorem mid_old {W : World} {p q : Nat} {v : Value} {l : List Bool} (hw : Wis W p v l) (hq : W.heap[q]? = some (.cells #[.pointer (some ⟨p, 0, none⟩)] 39 (0, 0))) (h : l.length % 8 ≠ 0) : Mid W W p q v l := by
  have he : extB l = bytesOf l := by unfold extB; rw [if_neg h]
  obtain ⟨g, cap, rfl, _, _⟩ := hw.2.form (by rw [bytesOf_length]; omega)
  exact ⟨g, cap, hq, by rw [he]; exact hw.1, by rw [he]; exact hw.2, Mv.refl _ _, fun _ => rfl⟩

theorem mid_new {W W0 w1 : World} {p q g cap : Nat} {v : Value} {l : List Bool} (hw : Wis W p v l)
    (h : l.length % 8 = 0) (hown : w1.ownsRow 0 5 1 (.slice (some ⟨g, 0, none⟩) ((bytesOf l).length + 1) cap) ((bytesOf l).length + 1) ((bytesOf l).map Bv ++ [.int .u8 0]))
    (hp : w1.heap[p]? = some (.cells #[.bool true, v, .int .i64 (l.length : Nat)] 54 (0, 0))) (hq : w1.heap[q]? = some (.cells #[.pointer (some ⟨p, 0, none⟩)] 39 (0, 0)))
    (hmv : Mv (fun _ => False) W W0) (hgrow : W0.grownBy w1 v.ownBlock) (hg : v.ownBlock = some g ∨ W.heap.size ≤ g) :
    Mid W (w1.setCell ⟨p, 1, none⟩ (.slice (some ⟨g, 0, none⟩) ((bytesOf l).length + 1) cap)) p q v l := by
  have he : extB l = bytesOf l ++ [0] := by unfold extB; rw [if_pos h]
  have hl : (extB l).length = (bytesOf l).length + 1 := by rw [he]; simp
  have hm : (extB l).map Bv = (bytesOf l).map Bv ++ [.int .u8 0] := by rw [he]; simp [Bv]
  have hgp : (Value.slice (some ⟨g, 0, none⟩) ((bytesOf l).length + 1) cap).ownBlock ≠ some p := own_blk hown hp (by decide)
  refine ⟨g, cap, ?_, ?_, ?_, ?_, fun hlt => hg.elim (fun h => h) (fun h => absurd h (by omega))⟩
  · rw [Below.heap_setCell _ _ _ _ (ne_blk hq hp (by decide))]; exact hq
  · rw [set_blk hp, hl]; rfl
  · rw [hl, hm]
    exact ownsRow_setCell_other hown hgp _
  · exact Mv.setCell (S := fun i => i = p ∨ v.ownBlock = some i) ((hmv.mono (fun _ _ f => f.elim)).grown hgrow (fun k _ e => Or.inr e)) (fun _ => Or.inl rfl) _

theorem mid_end {W w1 : World} {p : Nat} {v : Value} {l : List Bool} {x c g cap : Nat} {y : Nat} (hc0 : 0 < c) (hc : l.length % 8 + c ≤ 8)
    (hp : w1.heap[p]? = some (.cells #[.bool true, .slice (some ⟨g, 0, none⟩) (extB l).length cap, .int .i64 (l.length : Nat)] 54 (0, 0)))
    (hown : w1.ownsRow 0 5 1 (.slice (some ⟨g, 0, none⟩) (extB l).length cap) (extB l).length ((extB l).map Bv))
    (hmv : Mv (fun i => i = p ∨ v.ownBlock = some i) W w1) (hg : g < W.heap.size → v.ownBlock = some g)
    (hy : y = packB (l.drop (8 * (l.length / 8)))) :
    Put1 W ((w1.setCell ⟨g, l.length / 8, none⟩ (.int .u8 (bits .or .u8 (y : Int) ((x : Int) * 2 ^ (8 - c) % 256 / 2 ^ (l.length % 8))))).setCell ⟨p, 2, none⟩ (.int .i64 ((l.length : Int) + c))) p v (l ++ bitsOf x c) := by
  have hgp : g ≠ p := fun e => own_blk hown hp (by decide) (by rw [e]; rfl)
  have hlen : (l.drop (8 * (l.length / 8))).length = l.length % 8 := by simp; omega
  have hm : (bitsOf x c).length = c := bitsOf_length x c
  have hx : ((x : Int) * 2 ^ (8 - c) % 256 / 2 ^ (l.length % 8)) = ((natOf (bitsOf x c) * 2 ^ (8 - (bitsOf x c).length) / 2 ^ (l.drop (8 * (l.length / 8))).length : Nat) : Int) := by
    rw [hlen, hm, natOf_bitsOf]
    have e : x * 2 ^ (8 - c) % 256 = x % 2 ^ c * 2 ^ (8 - c) := by
      have : 256 = 2 ^ c * 2 ^ (8 - c) := by rw [← Nat.pow_add, show c + (8 - c) = 8 from by omega]
      rw [this, Nat.mul_mod_mul_right]
    rw [← e]
    rw [Int.natCast_ediv, Int.natCast_emod, Int.natCast_mul, Int.natCast_pow, Int.natCast_pow]
    rfl
  have hb : bits .or .u8 (y : Int) ((x : Int) * 2 ^ (8 - c) % 256 / 2 ^ (l.length % 8)) = ((UInt8.ofNat (packB (l.drop (8 * (l.length / 8)) ++ bitsOf x c))).toNat : Int) := by
    have h1 : packB (l.drop (8 * (l.length / 8)) ++ bitsOf x c) < 256 := packB_lt _ (by rw [List.length_append, hlen, hm]; omega)
    have h2 := packB_lt (l.drop (8 * (l.length / 8))) (by rw [hlen]; omega)
    have h3 := packB_append (l.drop (8 * (l.length / 8))) (bitsOf x c) (by rw [hlen, hm]; omega)
    have h4 : natOf (bitsOf x c) * 2 ^ (8 - (bitsOf x c).length) / 2 ^ (l.drop (8 * (l.length / 8))).length < 256 := by
      have := packB_lt (bitsOf x c) (by rw [hm]; omega)
      exact Nat.lt_of_le_of_lt (Nat.div_le_self _ _) this
    rw [hx, u8_or_nat _ _ (by omega) h4, hy, ofNat_toNat h1, h3]
  rw [hb]
  have hst := row_step l (bitsOf x c) (by omega) (by omega)
  have hbl : (bytesOf (l ++ bitsOf x c)).length = (extB l).length := by rw [hst]; simp
  refine ⟨.slice (some ⟨g, 0, none⟩) (extB l).length cap, ⟨?_, ?_⟩, ?_, fun i hi he => ?_⟩
  · rw [set_blk (cs := #[.bool true, .slice (some ⟨g, 0, none⟩) (extB l).length cap, .int .i64 (l.length : Nat)]) (by rw [Below.heap_setCell _ _ _ _ (fun e => hgp e.symm)]; exact hp)]
    simp [hm]
  · refine ownsRow_setCell_other ?_ (by simpa [Value.ownBlock] using hgp) _
    have := hown.stored (l.length / 8) (Bv (UInt8.ofNat (packB (l.drop (8 * (l.length / 8)) ++ bitsOf x c))))
    rw [hbl, hst, List.map_set]
    exact this.1
  · refine (hmv.setCell (fun h => Or.inr (hg h)) _).setCell (fun _ => Or.inl rfl) _
  · have : g = i := by simpa [Value.ownBlock] using he
    subst this
    exact hg hi

section
set_option maxHeartbeats 1600000
set_option maxRecDepth 100000
theorem into_any (W : World) (p q x c : Nat) (v : Value) (l : List Bool) (hq : W.heap[q]? = some (.cells #[.pointer (some ⟨p, 0, none⟩)] 39 (0, 0)))
    (hw : Wis W p v l) (hx1 : x < 256) (hc0 : 0 < c) (hc : l.length % 8 + c ≤ 8) (hn2 : l.length + c ≤ 8388608) :
    Calls Try.prog 21 #[.int .u8 x, .int .i64 c, .pointer (some ⟨q, 0, none⟩)] W fun e w' => e = .returned (.tuple #[]) ∧ Put1 W w' p v (l ++ bitsOf x c) := by
  obtain ⟨i0, hi, hz0, hz1, hz2⟩ := info_parts infoU8
  have hp := hw.1
  have hv := hw.2
  have hbl := bytesOf_length l
  have hqc := cell_blk hq 0
  have hp0 := cell_blk hp 0
  have hp1 := cell_blk hp 1
  have hp2 := cell_blk hp 2
  have fp1 := free_blk hp 1
  have fp2 := free_blk hp 2
  simp at hqc hp0 hp1 hp2
  have hpl := blk_lt hp
  have hql := blk_lt hq
  have HP := Lib.hid hp; clear hp
  have HQ := Lib.hid hq; clear hq
  have HL := Lib.hid hbl; clear hbl
  go_enter Try.func21, Try.ntmps21
  go_upto_if 10 with (fail)
  go_cut [] (fun wx => Mid W wx p q v l)
  case first =>
    by_cases h8 : l.length % 8 = 0
    · have hmod : ((l.length : Int) % 8 == 0) = true := by simp; omega
      have H8 := Lib.hid h8; clear h8
      go_wp2
      go_region_law (
        (refine step_append_lies _ rfl (.tmp 15) (.tmp 16) 22 rfl 0 5 i0 (.int .u8 0) 1 1 rfl hi hz0 hz1 hz2 rfl (by decide) v (bytesOf l).length ((bytesOf l).map Bv) rfl (hv.alloc _) ⟨W.heap.size, 0, none⟩ 1 1 [.int .u8 0] rfl rfl (World.news_of_block (heap_alloc_new _ _)) (by simp [Value.oneCell']) (by omega) (by unfold maxLen; have := HL.out; omega) (by have := HL.out; omega) (Nat.zero_le _) (W.heap.size + 1) (by simp) ?_
         intro g cap w1 hown hgrow hg hlt
         obtain ⟨kp, kq⟩ := past_append hv HP.out HQ.out (by decide) (by decide) hgrow (fun i hi => Below.heap_alloc W _ i hi) (by simp)
         have kp1 := cell_blk kp 1
         have kqc := cell_blk kq 0
         have ep1 := free_blk kp 1
         simp at kp1 kqc
         have KP := Lib.hid kp; clear kp
         have KQ := Lib.hid kq; clear kq))
      all_goals
        go_wp2_with fail
        go_meet
        exact mid_new hw H8.out hown KP.out KQ.out (by first | exact ((Mv.refl _ W).alloc _).drew | exact ((Mv.refl _ W).drew).alloc _) hgrow (hg.elim Or.inl (fun h => Or.inr (by omega)))
    · have hmod : ((l.length : Int) % 8 == 0) = false := by simp; omega
      have H8 := Lib.hid h8; clear h8
      go_wp2_with fail
      go_meet
      exact mid_old hw HQ.out H8.out
  case rest =>
    clear HP HQ hqc hp0 hp1 hp2 fp1 fp2 hpl hql hi hz0 hz1 hz2 i0
    obtain ⟨g, cap, kq, kp, hown, hmv, hg⟩ := hcut
    have hel := extB_length l
    have hye := extB_last l
    have hyl : packB (l.drop (8 * (l.length / 8))) < 256 := packB_lt _ (by simp; omega)
    have hY : ((extB l).map Bv)[l.length / 8]? = some (.int .u8 (packB (l.drop (8 * (l.length / 8))) : Nat)) := by
      rw [List.getElem?_map, hye]; simp only [Option.map_some, Bv, ofNat_toNat hyl]
    have hcell := hown.cells (g := g) rfl (l.length / 8) _ hY
    have hfree : wc.frozen? ⟨g, l.length / 8, none⟩ = false := hown.frozenAt (l.length / 8)
    have hadd : (⟨g, 0, none⟩ : Addr).add (l.length / 8) = ⟨g, l.length / 8, none⟩ := by unfold Addr.add; split <;> simp_all
    rw [hadd] at hcell
    have hgp : g ≠ p := fun e => own_blk hown kp (by decide) (by rw [e]; rfl)
    have hgq : g ≠ q := fun e => own_blk hown kq (by decide) (by rw [e]; rfl)
    have hgp2 : (⟨g, l.length / 8, none⟩ : Addr) ≠ ⟨p, 2, none⟩ := by intro e; injection e with e; exact hgp e
    have hgq2 : (⟨g, l.length / 8, none⟩ : Addr) ≠ ⟨q, 0, none⟩ := by intro e; injection e with e; exact hgq e
    have hlt : (l.length : Int) / 8 < (extB l).length := by omega
    have hge : (0 : Int) ≤ l.length / 8 := by omega
    have hqc := cell_blk kq 0
    have hp0 := cell_blk kp 0
    have hp1 := cell_blk kp 1
    have hp2 := cell_blk kp 2
    have fp1 := free_blk kp 1
    have fp2 := free_blk kp 2
    simp at hqc hp0 hp1 hp2
    clear hadd hye hY hel
    have KP := Lib.hid kp; clear kp
    have KQ := Lib.hid kq; clear kq
    obtain ⟨y, hy⟩ : ∃ y, y = packB (l.drop (8 * (l.length / 8))) := ⟨_, rfl⟩
    rw [← hy] at hcell hyl
    have HY := Lib.hid hy; clear hy
    go_wp2
    go_region
    all_goals
      go_wp2
      go_end0
      exact ⟨rfl, Put1.drew <| mid_end hc0 hc KP.out hown hmv hg HY.out⟩
theorem into_at (W : World) (p q x c : Nat) (X C : Int) (v : Value) (l : List Bool) (hX : X = x) (hC : C = c) (hq : W.heap[q]? = some (.cells #[.pointer (some ⟨p, 0, none⟩)] 39 (0, 0)))
    (hw : Wis W p v l) (hx1 : x < 256) (hc0 : 0 < c) (hc : l.length % 8 + c ≤ 8) (hn2 : l.length + c ≤ 8388608) :
    Calls Try.prog 21 #[.int .u8 X, .int .i64 C, .pointer (some ⟨q, 0, none⟩)] W fun e w' => e = .returned (.tuple #[]) ∧ Put1 W w' p v (l ++ bitsOf x c) := by
  subst hX hC
  exact into_any W p q x c v l hq hw hx1 hc0 hc hn2
end

end Go.Proofs.Ytnbgpmgcnfhfeaa
