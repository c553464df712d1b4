/-
  Digits as bytes again: the plain answers' own.
-/
import Derived.Test.YtmgjlldccmgpcaaDoorRa
import Derived.Test.YtmgjlldccmgpcaaDoorUw
namespace Go.Proofs.YtmgjlldccmgpcaaDoor
set_option linter.unusedVariables false
set_option linter.unusedSimpArgs false
open Go.RowKit
/-- The bytes of digits, the last one filled with bits 0. -/
def hexRow (s : Bs) : Bs := bytesOf (unBits 4 hexV s)
theorem hexRow_len (s : Bs) : (hexRow s).length = (s.length + 1) / 2 := by unfold hexRow; rw [bytesOf_length, unBits_length]; omega
/-- A first digit of two. -/
theorem hexRow_even {s : Bs} {k : Nat} (hk : k < s.length) (he : k % 2 = 0) (hv : hexV s[k] < 16) : hexRow (s.take (k + 1)) = hexRow (s.take k) ++ [UInt8.ofNat (16 * hexV s[k])] := by
  have hl : (unBits 4 hexV (s.take k)).length = 4 * k := by rw [unBits_length, List.length_take, Nat.min_eq_left (by omega)]
  have h0 : (unBits 4 hexV (s.take k)).length % 8 = 0 := by omega
  unfold hexRow
  rw [List.take_succ_eq_append_getElem hk, unBits_snoc, row_step _ _ (by rw [bitsOf_length]; decide) (by rw [bitsOf_length]; omega)]
  have hx : extB (unBits 4 hexV (s.take k)) = bytesOf (unBits 4 hexV (s.take k)) ++ [0] := by unfold extB; rw [if_pos h0]
  have hb := bytesOf_length (unBits 4 hexV (s.take k))
  rw [hx, List.drop_eq_nil_of_le (by omega), List.nil_append, List.set_append_right _ _ (by omega), show (unBits 4 hexV (s.take k)).length / 8 - (bytesOf (unBits 4 hexV (s.take k))).length = 0 by omega]
  congr 1
  unfold packB
  rw [natOf_bitsOf, bitsOf_length, Nat.mod_eq_of_lt hv]
  show [UInt8.ofNat (hexV s[k] * 16)] = _
  rw [Nat.mul_comm]
/-- A second one. -/
theorem hexRow_odd {s : Bs} {k : Nat} (hk : k < s.length) (ho : k % 2 = 1) (hv : hexV s[k] < 16) :
    ∃ (x : UInt8) (r : Bs), hexRow (s.take k) = r ++ [x] ∧ r.length = k / 2 ∧ x.toNat + hexV s[k] < 256 ∧ hexRow (s.take (k + 1)) = r ++ [UInt8.ofNat (x.toNat + hexV s[k])] := by
  have hl : (unBits 4 hexV (s.take k)).length = 4 * k := by rw [unBits_length, List.length_take, Nat.min_eq_left (by omega)]
  have h0 : (unBits 4 hexV (s.take k)).length % 8 = 4 := by omega
  have hb := bytesOf_length (unBits 4 hexV (s.take k))
  have hx : extB (unBits 4 hexV (s.take k)) = bytesOf (unBits 4 hexV (s.take k)) := by unfold extB; rw [if_neg (by omega)]
  have hlast := extB_last (unBits 4 hexV (s.take k))
  have hst := row_step (unBits 4 hexV (s.take k)) (bitsOf (hexV s[k]) 4) (by rw [bitsOf_length]; decide) (by rw [bitsOf_length]; omega)
  rw [hx] at hlast hst
  generalize hB : bytesOf (unBits 4 hexV (s.take k)) = B at *
  have hq : (unBits 4 hexV (s.take k)).length / 8 = k / 2 := by omega
  rw [hq] at hlast hst
  have hBl : B.length = k / 2 + 1 := by omega
  obtain ⟨r, x, hrx⟩ : ∃ r x, B = r ++ [x] := ⟨B.dropLast, B.getLast (by intro e; rw [e] at hBl; simp at hBl), (List.dropLast_concat_getLast _).symm⟩
  have hrl : r.length = k / 2 := by rw [hrx, List.length_append] at hBl; simp at hBl; omega
  have hdl : ((unBits 4 hexV (s.take k)).drop (8 * (k / 2))).length = 4 := by rw [List.length_drop]; omega
  have hnl := natOf_lt ((unBits 4 hexV (s.take k)).drop (8 * (k / 2)))
  rw [hdl] at hnl
  have hxv : x = UInt8.ofNat (natOf ((unBits 4 hexV (s.take k)).drop (8 * (k / 2))) * 16) := by
    rw [hrx, ← hrl, List.getElem?_concat_length] at hlast
    injection hlast with hlast
    rw [hlast, hrl]
    unfold packB
    rw [hdl]
  have hxn : x.toNat = natOf ((unBits 4 hexV (s.take k)).drop (8 * (k / 2))) * 16 := by
    rw [hxv, UInt8.toNat_ofNat', Nat.mod_eq_of_lt (by omega)]
  refine ⟨x, r, hB.trans hrx, hrl, by rw [hxn]; omega, ?_⟩
  unfold hexRow
  rw [List.take_succ_eq_append_getElem hk, unBits_snoc, hst, hrx, List.set_append_right _ _ (by omega), hrl, Nat.sub_self]
  congr 1
  show [UInt8.ofNat _] = _
  congr 2
  unfold packB
  rw [natOf_append, bitsOf_length, natOf_bitsOf, List.length_append, hdl, bitsOf_length, Nat.mod_eq_of_lt hv, hxn]
  show (_ * 16 + _) * 1 = _
  omega
theorem hexRow_all {s : Bs} (hs : ∀ x ∈ s, hexV x < 16) : unP 4 hexV s = if s.length % 2 = 1 then (8, []) else (0, hexRow s) := by
  have hl := unBits_length 4 hexV s
  unfold unP
  rw [if_pos (by rw [List.all_eq_true]; exact fun x hx => decide_eq_true (hs x hx))]
  by_cases h : s.length % 2 = 1
  · rw [if_pos h, if_pos (Or.inl (by omega))]
  · rw [if_neg h, if_neg]
    · congr 1
      unfold hexRow bytesOf bytesN
      rw [show ((unBits 4 hexV s).length + 7) / 8 = (unBits 4 hexV s).length / 8 by omega]
    · intro hc
      rcases hc with hc | hc
      · omega
      · exact hc (by rw [List.drop_eq_nil_of_le (by omega)]; rfl)
theorem own_set {w : World} {B : Nat} {e : TypeId} {A : Option Addr} {n cap : Nat} {xs : List Value} (h : w.ownsRow B e 1 (.slice A n cap) n xs) {i : Nat} (hi : i < n) :
    ∃ g, A = some ⟨g, 0, none⟩ ∧ B ≤ g ∧ w.cell? ⟨g, i, none⟩ = xs[i]? ∧ w.frozen? ⟨g, i, none⟩ = false ∧ ∀ v, (w.setCell ⟨g, i, none⟩ v).ownsRow B e 1 (.slice A n cap) n (xs.set i v) := by
  have hlen : xs.length = n := by have := h.1; simpa using this
  rcases h.2 with ⟨h1, h2⟩ | ⟨g, cap', cur, e1, hB, hg, hnc, hcm, hcs, htk⟩
  · injection h1 with _ h3 _; omega
  · injection e1 with e1 _ e2
    subst e1; subst e2
    have hin : i < cur.size := by rw [hcs]; omega
    have htk' : cur.toList.take n = xs := by simpa using htk
    refine ⟨g, rfl, hB, ?_, free_blk hg i, fun v => ⟨by rw [List.length_set]; exact h.1, .inr ⟨g, cap, cur.setIfInBounds i v, rfl, hB, set_blk hg i v, hnc, hcm, by simpa using hcs, ?_⟩⟩⟩
    · rw [cell_blk hg i, ← htk', List.getElem?_take, if_pos hi]
      simp
    · rw [Array.toList_setIfInBounds, List.take_set, Nat.mul_one, htk']
def halfN (k : Nat) : Nat := (k + 1) / 2
/-- What the loop over digits holds. -/
def HexRel (w : World) (s : ByteArray) (s4 s10 : Value) (wr : World) : Prop := ∃ (k : Nat) (A : Option Addr) (c : Nat), k ≤ s.size ∧ s10 = .int .i64 k ∧ s4 = .slice A (halfN k) c ∧
  wr.ownsRow w.heap.size 5 1 s4 (halfN k) ((hexRow ((bl s).take k)).map Bv) ∧ RowKit.Below w.heap.size w wr ∧ ∀ x ∈ (bl s).take k, hexV x < 16
section
set_option maxHeartbeats 1600000
set_option maxRecDepth 100000
theorem runhex_any (s : ByteArray) (w : World) (hs : s.size ≤ 2000) : Calls Tryd.prog 29 #[.string s] w (BytesRes w (unP 4 hexV (bl s))) := by
  obtain ⟨i0, hi, hz0, hz1, hz2⟩ := info_parts infoU8
  obtain ⟨R, hR⟩ : ∃ R, R = unP 4 hexV (bl s) := ⟨_, rfl⟩
  rw [← hR]
  have HR := Lib.hid hR; clear hR
  have HBL := Lib.hid (bl_len s)
  have HO0 := Lib.hid (own_empty w 5)
  have HI := Lib.hid (And.intro hi (And.intro hz0 (And.intro hz1 hz2))); clear hi hz0 hz1 hz2
  go_enter Tryd.func29, Tryd.ntmps29
  go_wp2
  go_loopw [4, 10] (fun s4 s10 wr => HexRel w s s4 s10 wr) (fun _ s10 _ => s.size - (intOf s10).toNat)
  case atStart => exact ⟨0, some ⟨w.heap.size, 0, none⟩, 0, by omega, rfl, rfl, (by rw [List.take_zero, show hexRow [] = [] from rfl]; exact HO0.out), (RowKit.Below.refl _ w).alloc (Nat.le_refl _) _, fun x hx => by simp at hx⟩
  case round =>
    obtain ⟨k, A4, c4, hk, rfl, rfl, OW, BW, ALL⟩ := hrel
    have HOW := Lib.hid OW; have HBW := Lib.hid BW; have HALL := Lib.hid ALL; clear OW BW ALL
    have k0 : (0 : Int) ≤ (k : Int) := by omega
    by_cases hlt : k < s.size
    · have k1 : (k : Int) < (s.size : Int) := by omega
      have hkb : k < (bl s).length := by rw [HBL.out]; exact hlt
      have hlx : ltr (bl s) k = (bl s)[k] := by unfold ltr; rw [List.getD_eq_getElem?_getD, List.getElem?_eq_getElem hkb]; rfl
      have hix : ∀ u, (Instr.index 9 (.string s) (.int .i64 (k : Nat))).run Tryd.prog u = .ok (.int .u8 ((bl s)[k].toNat : Nat)) u := fun u => by
        have := run_index_str u 9 s .i64 k Tryd.underlying9 hlt
        rw [← hlx]; exact this
      have hbad := @un_bad 4 hexV (bl s) k hkb
      have htk : (bl s).take (k + 1) = (bl s).take k ++ [(bl s)[k]] := List.take_succ_eq_append_getElem hkb
      have hev := @hexRow_even (bl s) k hkb
      have hod := @hexRow_odd (bl s) k hkb
      have hva := fun W => nibble_any (bl s)[k] W
      have hle := hexV_le (bl s)[k]
      generalize (bl s)[k] = x at *
      generalize hvx : hexV x = v at hva hle hbad hev hod
      by_cases hv : v < 16
      · have hall2 : ∀ y ∈ (bl s).take (k + 1), hexV y < 16 := by
          intro y hy
          rw [htk] at hy
          rcases List.mem_append.1 hy with hy | hy
          · exact HALL.out y hy
          · rw [List.mem_singleton] at hy; rw [hy, hvx]; exact hv
        have hv' : ¬ (15 : Int) < (v : Int) := by omega
        have HVA := Lib.hid hva; have HALL2 := Lib.hid hall2; clear hva hbad htk hlx hall2 hvx
        by_cases he : k % 2 = 0
        · have hst := hev he hv
          have he1 : ((k : Int) % 2 == 0) = true := by rw [beq_iff_eq]; omega
          have he2 : ((k : Int).tmod 2 == 0) = true := by rw [Int.tmod_eq_emod_of_nonneg k0]; exact he1
          have hhl : (hexRow ((bl s).take k)).length = halfN k := by rw [hexRow_len, List.length_take, HBL.out, Nat.min_eq_left hk]; rfl
          have hh2 : halfN (k + 1) = halfN k + 1 := by unfold halfN; omega
          have hhs : halfN k ≤ 1001 := by unfold halfN; omega
          have hws : w.heap.size ≤ wr.heap.size := HBW.out.size
          have HST := Lib.hid hst; have HH2 := Lib.hid hh2; have HHL := Lib.hid hhl; clear hst hev hod hh2 hhl
          obtain ⟨hi, hz0, hz1, hz2⟩ := HI.out
          go_wp2_with fail
          refine (HVA.out _).mono ?_
          rintro e w3 ⟨rfl, rfl⟩
          go_wp2_with (first
            | (at_builtin; go_must (refine wpList_append_lies _ rfl _ _ 28 rfl w.heap.size 5 i0 (.int .u8 0) 1 1 Tryd.underlying28 hi hz0 hz1 hz2 rfl (by decide) _ (halfN k) ((hexRow ((bl s).take k)).map Bv) rfl (HOW.out.alloc _) ⟨wr.heap.size, 0, none⟩ 1 1 [.int .u8 (16 * (v : Int))] rfl rfl (World.news_of_block (heap_alloc_new _ _)) (by simp [Value.oneCell']) (by omega) (by unfold maxLen; omega) (by omega) (by simp; omega) (wr.heap.size + 1) (by simp) ?_; intro g' cap' w4 own4 grow4 hg4 hlt4))
            | fail)
          have hB4 : RowKit.Below w.heap.size w w4 := (HBW.out.alloc HBW.out.size _).grown grow4 (by simp; omega) (fun i hi => (HOW.out.lt i hi).1)
          have hO4 : w4.ownsRow w.heap.size 5 1 (.slice (some ⟨g', 0, none⟩) (halfN k + 1) cap') (halfN (k + 1)) ((hexRow ((bl s).take (k + 1))).map Bv) := by
            rw [HST.out, HH2.out, List.map_append, List.map_singleton, ← byte_of (show (16 * (v : Int)) = ((16 * v : Nat) : Int) by omega) (by omega)]
            exact own4
          have B4 := Lib.hid hB4; have O4 := Lib.hid hO4; clear hB4 hO4 own4 grow4 hi hz0 hz1 hz2
          go_wp2
          go_roundw
          case rel => exact ⟨k + 1, some ⟨g', 0, none⟩, cap', by omega, by go_num, by rw [HH2.out], O4.out, B4.out, HALL2.out⟩
          case measure => simp [intOf]; omega
        · obtain ⟨y, r, hr1, hr2, hr3, hr4⟩ := hod (by omega) hv
          have he1 : ((k : Int) % 2 == 0) = false := by rw [beq_eq_false_iff_ne]; omega
          have he2 : ((k : Int).tmod 2 == 0) = false := by rw [Int.tmod_eq_emod_of_nonneg k0]; exact he1
          obtain ⟨q, hq⟩ : ∃ q, q = k / 2 := ⟨_, rfl⟩
          have hq1 : (k : Int) / 2 = (q : Int) := by omega
          have hq2 : (k : Int).tdiv 2 = (q : Int) := by rw [Int.tdiv_eq_ediv_of_nonneg k0]; exact hq1
          have hqh : q < halfN k := by unfold halfN; omega
          have hh2 : halfN (k + 1) = halfN k := by unfold halfN; omega
          have how := HOW.out
          rw [hr1] at how
          obtain ⟨g, rfl, hgB, hcell, hfz, hset⟩ := own_set how hqh
          have hget : ((r ++ [y]).map Bv)[q]? = some (.int .u8 (y.toNat : Nat)) := by
            rw [hq, ← hr2, List.map_append, List.getElem?_append_right (by rw [List.length_map]; exact Nat.le_refl _), List.length_map, Nat.sub_self]; rfl
          rw [hget] at hcell
          have hq0 : (0 : Int) ≤ (q : Int) := by omega
          have hqc : (q : Int) < ((halfN k : Nat) : Int) := by omega
          have hO4 : (wr.setCell ⟨g, q, none⟩ (.int .u8 ((y.toNat : Int) + (v : Int)))).ownsRow w.heap.size 5 1 (.slice (some ⟨g, 0, none⟩) (halfN k) c4) (halfN (k + 1)) ((hexRow ((bl s).take (k + 1))).map Bv) := by
            have h := hset (.int .u8 ((y.toNat : Int) + (v : Int)))
            have hs : ((r ++ [y]).map Bv).set q (.int .u8 ((y.toNat : Int) + (v : Int))) = (r ++ [UInt8.ofNat (y.toNat + v)]).map Bv := by
              rw [hq, ← hr2, List.map_append, List.map_append, List.set_append_right _ _ (by rw [List.length_map]; exact Nat.le_refl _), List.length_map, Nat.sub_self, List.map_singleton, List.map_singleton]
              show _ ++ [_] = _
              rw [byte_of (show ((y.toNat : Int) + (v : Int)) = ((y.toNat + v : Nat) : Int) by omega) hr3]
            rw [hs] at h
            rw [hh2, hr4]
            exact h
          have hB4 : RowKit.Below w.heap.size w (wr.setCell ⟨g, q, none⟩ (.int .u8 ((y.toNat : Int) + (v : Int)))) := HBW.out.setCell (p := ⟨g, q, none⟩) hgB _
          have hyv : (y.toNat : Int) + (v : Int) ≤ 255 := by omega
          have B4 := Lib.hid hB4; have O4 := Lib.hid hO4; have HH2 := Lib.hid hh2; clear hB4 hO4 hset hget how hr1 hr2 hr4 hev hod hh2 hq
          go_wp2_with fail
          refine (HVA.out _).mono ?_
          rintro e w3 ⟨rfl, rfl⟩
          go_wp2
          go_roundw
          case rel => exact ⟨k + 1, some ⟨g, 0, none⟩, c4, by omega, by go_num, by rw [HH2.out], O4.out, B4.out, HALL2.out⟩
          case measure => simp [intOf]; omega
      · have hr : R = (8, []) := by rw [HR.out]; exact hbad hv
        subst hr
        have hv' : (15 : Int) < (v : Int) := by omega
        have HVA := Lib.hid hva; clear hva hbad htk hlx hev hod
        go_wp2_with fail
        refine (HVA.out _).mono ?_
        rintro e w3 ⟨rfl, rfl⟩
        go_wp2
        go_ret2
        exact ⟨none, 0, rfl, Rd.nil _ _, HBW.out⟩
    · obtain rfl : k = s.size := by omega
      have htk : (bl s).take s.size = bl s := List.take_of_length_le (by rw [HBL.out]; exact Nat.le_refl _)
      have how := HOW.out
      have hall := HALL.out
      rw [htk] at how hall
      have hR := HR.out
      rw [hexRow_all hall, HBL.out] at hR
      have hhl : (hexRow (bl s)).length = halfN s.size := by rw [hexRow_len, HBL.out]; rfl
      obtain ⟨A6, c6, e6, hr6, -⟩ := own_rd how
      have ea : A4 = A6 := by injection e6
      rw [← ea] at hr6
      by_cases ho : s.size % 2 = 1
      · rw [if_pos ho] at hR
        subst hR
        have he1 : ((s.size : Int) % 2 == 1) = true := by rw [beq_iff_eq]; omega
        have he2 : ((s.size : Int).tmod 2 == 1) = true := by rw [Int.tmod_eq_emod_of_nonneg k0]; exact he1
        clear htk how hall e6 ea hr6 hhl
        go_wp2
        go_ret2
        exact ⟨none, 0, rfl, Rd.nil _ _, HBW.out⟩
      · rw [if_neg ho] at hR
        subst hR
        have he1 : ((s.size : Int) % 2 == 1) = false := by rw [beq_eq_false_iff_ne]; omega
        have he2 : ((s.size : Int).tmod 2 == 1) = false := by rw [Int.tmod_eq_emod_of_nonneg k0]; exact he1
        have HR6 := Lib.hid hr6; have HHL := Lib.hid hhl
        clear htk how hall e6 ea hr6 hhl
        go_wp2
        go_ret2
        exact ⟨A4, c4, (by show _ = Ending.returned (Value.tuple #[.slice A4 (hexRow (bl s)).length c4, .int .i64 0]); rw [HHL.out]; rfl), HR6.out, HBW.out⟩
end
end Go.Proofs.YtmgjlldccmgpcaaDoor
