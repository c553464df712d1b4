/-
  DiskRefuses (P11.7): what is refused changes nothing. No condition.
-/
import Derived.Test.YtinjdlplbficiaaDv
import Derived.Test.YtinjdlplbficiaaDx
import Derived.Test.YtinjdlplbficiaaDl
import Derived.Test.YtinjdlplbficiaaDi
import Derived.Test.YtinjdlplbficiaaDj
namespace Go.Proofs.Ytinjdlplbficiaa
set_option linter.unusedVariables false
set_option linter.unusedSimpArgs false
open Go.ChangeShapes Go.WideShapes Go.ChangeAt Go.RowKit
theorem app_refused {room : Nat} {L : List Fl} {s : ByteArray} {b : List UInt8} (h : (appD room L s b).1 ≠ 0) : (appD room L s b).2 = L := by
  unfold appD at h ⊢
  split
  · rfl
  · rename_i h1
    rw [if_neg h1] at h
    cases hl : lookL L s with
    | none =>
      rw [hl] at h
      simp only at h ⊢
      split
      · rfl
      · rename_i h2
        rw [if_neg h2] at h
        split
        · rfl
        · rename_i h3; rw [if_neg h3] at h; exact absurd rfl h
    | some f =>
      rw [hl] at h
      simp only at h ⊢
      split
      · rfl
      · rename_i h3; rw [if_neg h3] at h; exact absurd rfl h
theorem doD_refused {room : Nat} {L : List Fl} {o : OpD} (h : (doD room L o).1 ≠ 0) : (doD room L o).2 = L := by
  unfold doD at h ⊢
  by_cases k0 : o.kd = 0
  · rw [if_pos k0] at h ⊢; exact app_refused h
  by_cases k1 : o.kd = 1
  · rw [if_neg k0, if_pos k1] at h ⊢
    unfold syncD at h ⊢
    cases hl : lookL L o.nm with
    | none => rfl
    | some f => rw [hl] at h; exact absurd rfl h
  by_cases k2 : o.kd = 2
  · rw [if_neg k0, if_neg k1, if_pos k2] at h ⊢
    unfold cutD at h ⊢
    cases hl : lookL L o.nm with
    | none => rfl
    | some f =>
      rw [hl] at h
      simp only at h ⊢
      split
      · rfl
      · rename_i h3; rw [if_neg h3] at h; exact absurd rfl h
  by_cases k3 : o.kd = 3
  · rw [if_neg k0, if_neg k1, if_neg k2, if_pos k3] at h ⊢
    unfold remD at h ⊢
    cases hl : lookL L o.nm with
    | none => rfl
    | some f => rw [hl] at h; exact absurd rfl h
  by_cases k4 : o.kd = 4
  · rw [if_neg k0, if_neg k1, if_neg k2, if_neg k3, if_pos k4] at h ⊢
    unfold swapD at h ⊢
    cases hl : lookL L o.nm with
    | none => rfl
    | some f =>
      rw [hl] at h
      simp only at h ⊢
      split
      · rfl
      · rename_i h2
        rw [if_neg h2] at h
        split
        · rfl
        · rename_i h3; rw [if_neg h3] at h; exact absurd rfl h
  by_cases k5 : o.kd = 5
  · rw [if_neg k0, if_neg k1, if_neg k2, if_neg k3, if_neg k4, if_pos k5] at h; exact absurd rfl h
  · rw [if_neg k0, if_neg k1, if_neg k2, if_neg k3, if_neg k4, if_neg k5] at h; exact absurd rfl h
theorem room_if (room : Int) : ∃ R : Nat, R ≤ 4096 ∧ min (max room 0) 4096 = (R : Int) := ⟨(min (max room 0) 4096).toNat, by omega, by omega⟩
section
set_option maxHeartbeats 3200000
set_option maxRecDepth 100000
theorem diskRefuses_walk (room : Int) (A : Option Addr) (c : Nat) (l : List OpD) (o : OpD) (w : World) (hx : Rd w A (l.flatMap opV)) (hlc : l.length ≤ c) (hcm : c ≤ 9223372036854775807) (hz : ∀ o ∈ l, OpOk w o) (ho : OpOk w o) :
    Calls Try.prog 7 #[.int .i64 room, .slice A l.length c, .agg (opV o).toArray] w fun e w' => e = .returned (.bool true) ∧ RowKit.Below w.heap.size w w' := by
  obtain ⟨kd, nm, nt, Ao, co, bs, n⟩ := o
  obtain ⟨R, hR, q1⟩ := room_if room
  obtain ⟨W, hW⟩ : ∃ W, W = w.alloc (.cells #[.int .i64 kd, .string nm, .string nt, .slice Ao bs.length co, .int .i64 n] 47) := ⟨_, rfl⟩
  have hbw : Below w.heap.size w W := by rw [hW]; exact (Below.refl _ w).alloc (Nat.le_refl _) _
  have hbx : W.heap[w.heap.size]? = some (.cells #[.int .i64 kd, .string nm, .string nt, .slice Ao bs.length co, .int .i64 n] 47 (0, 0)) := by rw [hW]; exact heap_alloc_new w _
  have hsW : W.heap.size = w.heap.size + 1 := by rw [hW]; simp
  have HBX := Lib.hid (show ∀ W', Below W.heap.size W W' → W'.cell? ⟨w.heap.size, 0, none⟩ = some (.int .i64 kd) ∧ W'.cell? ⟨w.heap.size, 1, none⟩ = some (.string nm) ∧ W'.cell? ⟨w.heap.size, 2, none⟩ = some (.string nt) ∧ W'.cell? ⟨w.heap.size, 3, none⟩ = some (.slice Ao bs.length co) ∧ W'.cell? ⟨w.heap.size, 4, none⟩ = some (.int .i64 n) from fun W' hb => by
    have h0 := (hb.block w.heap.size (blk_lt hbx)).trans hbx
    exact ⟨cell_blk h0 0, cell_blk h0 1, cell_blk h0 2, cell_blk h0 3, cell_blk h0 4⟩)
  have HW := Lib.hid hW; have HBW := Lib.hid hbw; have HSW := Lib.hid hsW
  have HX := Lib.hid (hx.below hbw); have HZ := Lib.hid (fun o ho => (hz o ho).below hbw); have HO := Lib.hid (ho.below hbw)
  unfold opV
  clear hW hbw hbx hx hz ho hsW
  simp only
  by_cases hbig : bs.length ≤ 10000 ∧ nm.size ≤ 10000 ∧ nt.size ≤ 10000
  · obtain ⟨g1, g2, g3⟩ := hbig
    have g1' : ¬ (10000 : Int) < (bs.length : Int) := by omega
    have g2' : ¬ (10000 : Int) < (nm.size : Int) := by omega
    have g3' : ¬ (10000 : Int) < (nt.size : Int) := by omega
    go_enter Try.func7, Try.ntmps7
    go_wp2_with fail
    rw [← HW.out]
    go_wp2_with fail
    with_reducible refine (dnew_any (R : Int) W (by omega)).mono ?_
    rintro e w1 ⟨rfl, D1, hb1⟩
    rw [Int.toNat_natCast] at D1
    have F1 : ∀ k, foot (W.heap.size + 1) W.heap.size [] k → W.heap.size ≤ k := by
      rintro k (h | h | ⟨e, he, _⟩)
      · omega
      · omega
      · simp at he
    obtain ⟨db, hdb⟩ : ∃ db, db = W.heap.size + 1 := ⟨_, rfl⟩
    obtain ⟨mb, hmb⟩ : ∃ mb, mb = W.heap.size := ⟨_, rfl⟩
    rw [← hdb] at D1 F1 ⊢
    rw [← hmb] at D1 F1
    rw [hmb] at F1
    rw [← hmb] at F1
    have F1' : ∀ k, foot db mb [] k → W.heap.size ≤ k := fun k hk => by rw [← hmb]; exact F1 k hk
    have HD1 := Lib.hid D1; have HF1 := Lib.hid F1'; have HB1 := Lib.hid hb1
    clear D1 F1 F1' hb1 hdb hmb
    obtain ⟨b0, b1, b2, b3, b4⟩ := HBX.out _ HB1.out
    go_wp2_with fail
    with_reducible refine (dlive_any _).mono ?_
    rintro e w2 ⟨rfl, hb2⟩
    have HB2 := Lib.hid (HB1.out.trans (hb2.mono HB1.out.size))
    have HD2 := Lib.hid (HD1.out.below hb2)
    clear HB1 HD1 hb2 b0 b1 b2 b3 b4
    obtain ⟨b0, b1, b2, b3, b4⟩ := HBX.out _ HB2.out
    go_wp2_with fail
    with_reducible refine (few_any A c l w2 (HX.out.below HB2.out) hlc (fun o ho => (HZ.out o ho).below HB2.out)).mono ?_
    rintro e w3 ⟨K, hK, rfl, hsm, hb3⟩
    have HB3 := Lib.hid (HB2.out.trans (hb3.mono HB2.out.size))
    have HD3 := Lib.hid (HD2.out.below hb3)
    have HSM := Lib.hid hsm
    clear HB2 HD2 hb3 hsm b0 b1 b2 b3 b4
    go_wp2
    go_loopw [63] (fun s63 wr => ∃ (k : Nat) (es : List Ent), s63 = .int .i64 k ∧ k ≤ K ∧ Aside (DiskE wr db mb R es) ∧ Aside (∀ k, foot db mb es k → W.heap.size ≤ k) ∧ Aside (Below W.heap.size W wr)) (fun s63 _ => K - (intOf s63).toNat)
    case atStart => exact ⟨0, [], rfl, by omega, HD3.out, HF1.out, HB3.out⟩
    case round =>
      clear HD3 HF1 HB3
      obtain ⟨k, es, rfl, hk, DE, FE, BE⟩ := hrel
      have k0 : (0 : Int) ≤ (k : Int) := by omega
      by_cases hlt : k < K
      · have k1 : (k : Int) < (K : Int) := by omega
        obtain ⟨x, hxk⟩ : ∃ x, l[k]? = some x := ⟨_, List.getElem?_eq_getElem (by omega)⟩
        obtain ⟨b, off, rfl, hc⟩ := (HX.out.below BE.out).flat opV_len (by decide) hxk
        have c0 := hc 0 _ rfl; have c1 := hc 1 _ rfl; have c2 := hc 2 _ rfl; have c3 := hc 3 _ rfl; have c4 := hc 4 _ rfl
        rw [Nat.add_zero] at c0
        have hxs : x.bs.length ≤ 30000 := HSM.out x (by
          have : (l.take K)[k]? = some x := by rw [List.getElem?_take, if_pos hlt]; exact hxk
          exact List.mem_of_getElem? this)
        have hba := BE.out.alloc BE.out.size (.cells (opV x).toArray 47)
        have hda := DE.out.below ((Below.refl _ wr).alloc (Nat.le_refl _) (.cells (opV x).toArray 47))
        have HDO := Lib.hid (does_any hda x ((HZ.out x (List.mem_of_getElem? hxk)).below hba) (by omega))
        have HBA := Lib.hid hba
        clear hc hxk hxs hda hba
        generalize hcd : doD R (es.map val) x = RR at HDO
        clear hcd
        obtain ⟨xkd, xnm, xnt, xA, xc, xbs, xn⟩ := x
        unfold opV at HDO HBA
        simp only at c0 c1 c2 c3 c4 HDO HBA
        go_wp2_with fail
        with_reducible refine HDO.out.mono ?_
        rintro e w4 hM
        obtain ⟨rfl, es2, D4, L4, hb4, F4⟩ := hM.keep (base := W.heap.size) HBA.out.size FE.out
        have HD4 := Lib.hid D4; have HF4 := Lib.hid F4; have HB4 := Lib.hid (HBA.out.trans hb4)
        clear D4 F4 hb4 L4 hM
        go_wp2
        go_roundw
        case rel => exact ⟨k + 1, es2, by go_num, by omega, HD4.out, HF4.out, HB4.out⟩
        case measure => simp [intOf]; omega
      · obtain rfl : k = K := by omega
        clear k0 hlt hk HSM
        go_wp2_with fail
        with_reducible refine (clone_any DE.out).mono ?_
        rintro e w4 ⟨cdb, cmb, cur, rfl, C4, L4, F4, hb4⟩
        have hB4 := BE.out.trans (hb4.mono BE.out.size)
        have HB4 := Lib.hid hB4
        have HD4 := Lib.hid (DE.out.below hb4)
        have hfd : ∀ k, foot db mb es k → foot cdb cmb cur k → False := fun k h1 h2 => by have := DE.out.lt h1; have := F4 k h2; omega
        have HFD := Lib.hid hfd; have HC4 := Lib.hid C4; have HL4 := Lib.hid L4; have HF4 := Lib.hid F4
        have HBE := Lib.hid BE.out.size
        clear C4 L4 F4 hb4 hB4 hfd
        obtain ⟨b0, b1, b2, b3, b4⟩ := HBX.out _ HB4.out
        have HDO := Lib.hid (does_any HD4.out ⟨kd, nm, nt, Ao, co, bs, n⟩ (HO.out.below HB4.out) (by show bs.length ≤ _; omega))
        have HREF := Lib.hid (fun h => doD_refused (room := R) (L := es.map val) (o := ⟨kd, nm, nt, Ao, co, bs, n⟩) h)
        generalize doD R (es.map val) ⟨kd, nm, nt, Ao, co, bs, n⟩ = RR at HDO HREF
        unfold opV at HDO
        simp only at HDO
        go_wp2_with fail
        with_reducible refine HDO.out.mono ?_
        rintro e w5 hM
        obtain ⟨rfl, es5, D5, L5, hmv5, F5⟩ := hM
        have hB5 : Below W.heap.size W w5 := HB4.out.trans (hmv5.belowB HB4.out.size (fun k hk hf => by have := FE.out k hf; omega))
        have C5 : DiskE w5 cdb cmb R cur := HC4.out.moved fun k hk => hmv5.block k (HC4.out.lt hk) (fun hf => HFD.out k hf hk)
        have HB5 := Lib.hid hB5; have HD5 := Lib.hid D5; have HC5 := Lib.hid C5; have HL5 := Lib.hid L5
        clear D5 L5 hmv5 F5 hB5 C5 b0 b1 b2 b3 b4
        by_cases hcd : RR.1 = 0
        · rw [hcd]
          go_wp2
          go_ret
          exact ⟨rfl, HBW.out.trans (HB5.out.mono HBW.out.size)⟩
        · have hL : es5.map val = cur.map val := by rw [HL5.out, HREF.out hcd, HL4.out]
          have hq : (RR.1 == (0 : Int)) = false := beq_eq_false_iff_ne.2 hcd
          have hc' : ¬ RR.1 = (0 : Int) := hcd
          obtain ⟨code, hcode⟩ : ∃ code, code = RR.1 := ⟨_, rfl⟩
          rw [← hcode] at hq hcd hc' ⊢
          clear hcode
          have hlen : es5.length = cur.length := by have := congrArg List.length hL; simpa using this
          have hsz : lenL (es5.map val) = lenL (cur.map val) := by rw [hL]
          have hat : ∀ (k : Nat) (x : Ent), es5[k]? = some x → ∃ y : Ent, cur[k]? = some y ∧ y.nm = x.nm ∧ y.bs = x.bs ∧ y.n = x.n := fun k x hk => by
            have h1 : (es5.map val)[k]? = some (val x) := by rw [List.getElem?_map, hk]; rfl
            rw [hL, List.getElem?_map] at h1
            cases hy : cur[k]? with
            | none => rw [hy] at h1; cases h1
            | some y =>
              rw [hy] at h1
              injection h1 with h1
              exact ⟨y, rfl, congrArg (·.1) h1, congrArg (·.2.1) h1, congrArg (·.2.2) h1⟩
          have HAT := Lib.hid hat
          have HL1 := Lib.hid (dlist_any HD5.out)
          have hl5 := HD5.out.fits.2.2
          clear hat hL HBX HDO HREF HL4 HFD HD4 HC4 HL5
          go_wp2_with fail
          with_reducible refine HL1.out.mono ?_
          rintro e w6 ⟨v6, rfl, ho6, hb6⟩
          obtain ⟨A6, c6, rfl, hr6, -, -, -⟩ := own_rd ho6
          have hl2 := dlist_any (HC5.out.below hb6)
          have HR6 := Lib.hid hr6; have HB6 := Lib.hid hb6
          clear ho6 hr6 hb6
          go_wp2_with fail
          with_reducible refine hl2.mono ?_
          rintro e w7 ⟨v7, rfl, ho7, hb7⟩
          obtain ⟨A7, c7, rfl, hr7, -, -, -⟩ := own_rd ho7
          rw [← hlen]
          have hB7 := HB6.out.trans (hb7.mono HB6.out.size)
          have HR7 := Lib.hid hr7; have HR67 := Lib.hid (HR6.out.below hb7); have HB7 := Lib.hid hB7
          have HS1 := Lib.hid (dsize_any (HD5.out.below hB7))
          have HS2 := Lib.hid (fun (W' : World) (hb : Below w5.heap.size w5 W') => dsize_any (HC5.out.below hb))
          rw [hsz] at HS1
          generalize lenL (cur.map val) = T at HS1 HS2
          clear ho7 hr7 hb7 hl2 HL1 HR6 HB6 hB7 hsz
          go_wp2_with fail
          with_reducible refine HS1.out.mono ?_
          rintro e w8 ⟨rfl, hb8⟩
          have hB8 := HB7.out.trans (hb8.mono HB7.out.size)
          have HR78 := Lib.hid (HR7.out.below hb8); have HR68 := Lib.hid (HR67.out.below hb8)
          have hs2 := HS2.out w8 hB8
          have HB8 := Lib.hid hB8
          clear hb8 hB8 HS1 HS2 HR7 HR67 HB7
          go_wp2_with fail
          with_reducible refine hs2.mono ?_
          rintro e w9 ⟨rfl, hb9⟩
          have HB9 := Lib.hid (HB8.out.trans (hb9.mono HB8.out.size))
          have HR7 := Lib.hid (HR78.out.below hb9); have HR6 := Lib.hid (HR68.out.below hb9)
          have HD9 := Lib.hid (HD5.out.below HB9.out); have HC9 := Lib.hid (HC5.out.below HB9.out)
          clear hb9 hs2 HB8 HR78 HR68
          go_wp2
          go_loopw [97] (fun s97 wr => ∃ k : Nat, s97 = .int .i64 k ∧ k ≤ es5.length ∧ Aside (Below w9.heap.size w9 wr)) (fun s97 _ => es5.length - (intOf s97).toNat)
          case atStart => exact ⟨0, rfl, by omega, Below.refl _ _⟩
          case round =>
            obtain ⟨k, rfl, hk, BW⟩ := hrel
            have k0 : (0 : Int) ≤ (k : Int) := by omega
            by_cases hlt : k < es5.length
            · have k1 : (k : Int) < (es5.length : Int) := by omega
              obtain ⟨x, hxk⟩ : ∃ x, es5[k]? = some x := ⟨_, List.getElem?_eq_getElem hlt⟩
              obtain ⟨y, hyk, y1, y2, y3⟩ := HAT.out k x hxk
              have hxm := List.mem_of_getElem? hxk; have hym := List.mem_of_getElem? hyk
              have hD := HD9.out.below BW.out; have hC := HC9.out.below BW.out
              have hxs : x.nm.size ≤ maxLen := by have := (hD.each x hxm).2; unfold maxLen; omega
              have hn6 : (es5.map fun e => Value.string e.nm)[k]? = some (.string x.nm) := by rw [List.getElem?_map, hxk]; rfl
              have hn7 : (cur.map fun e => Value.string e.nm)[k]? = some (.string x.nm) := by rw [List.getElem?_map, hyk, ← y1]; rfl
              obtain ⟨b6, o6, rfl, c60⟩ := (HR6.out.below BW.out) k _ hn6
              have HN7 := Lib.hid (fun (W' : World) (hb : Below w9.heap.size w9 W') => (HR7.out.below hb) k _ hn7)
              have hrd1 := dread_any hD x.nm hxs
              rw [lookE_of hD.srt hxm] at hrd1
              have hrd2 : ∀ W', Below wr.heap.size wr W' → Calls Try.prog 26 #[.pointer (some ⟨cdb, 0, none⟩), .string x.nm] W' (ReadOut W' (some y)) := fun W' hb => by
                have := dread_any (hC.below hb) x.nm hxs
                rwa [← y1, lookE_of hC.srt hym, y1] at this
              have hls1 : ∀ W', Below wr.heap.size wr W' → Calls Try.prog 28 #[.pointer (some ⟨db, 0, none⟩), .string x.nm] W' fun e w' => e = .returned (.tuple #[.int .i64 (x.n : Nat), .int .i64 0]) ∧ W' = w' := fun W' hb => by
                have := dlasts_any (hD.below hb) x.nm hxs
                rwa [lookE_of hD.srt hxm] at this
              have hls2 : ∀ W', Below wr.heap.size wr W' → Calls Try.prog 28 #[.pointer (some ⟨cdb, 0, none⟩), .string x.nm] W' fun e w' => e = .returned (.tuple #[.int .i64 (x.n : Nat), .int .i64 0]) ∧ W' = w' := fun W' hb => by
                have := dlasts_any (hC.below hb) x.nm hxs
                rw [← y1, lookE_of hC.srt hym, y1] at this
                simp only [y3] at this
                exact this
              have hlx := hD.len hxm
              unfold ReadOut at hrd1 hrd2
              simp only at hrd1 hrd2
              rw [y2] at hrd2
              have HD1 := Lib.hid hrd1; have HD2 := Lib.hid hrd2; have HS1 := Lib.hid hls1; have HS2 := Lib.hid hls2
              clear hrd1 hrd2 hls1 hls2 hxk hyk y1 y2 y3 hxm hym hD hC hn6 hn7 hxs
              generalize x.nm = nx at *
              generalize x.bs = bx at *
              generalize x.n = mx at *
              go_wp2_with fail
              with_reducible refine HD1.out.mono ?_
              rintro e x1 ⟨A1, c1, rfl, ho1, hb1⟩
              obtain ⟨A1', c1', e1, hr1, -⟩ := own_bytes ho1
              injection e1 with e1 _ e2; subst e1; subst e2
              have HR1 := Lib.hid hr1; have HX1 := Lib.hid hb1
              clear ho1 hr1 hb1
              go_wp2_with fail
              with_reducible refine (HD2.out x1 HX1.out).mono ?_
              rintro e x2 ⟨A2, c2, rfl, ho2, hb2⟩
              obtain ⟨A2', c2', e2, hr2, -⟩ := own_bytes ho2
              injection e2 with e2 _ e3; subst e2; subst e3
              have HR2 := Lib.hid hr2; have HR12 := Lib.hid (HR1.out.below hb2); have HX2 := Lib.hid (HX1.out.trans (hb2.mono HX1.out.size))
              clear ho2 hr2 hb2
              go_wp2_with fail
              with_reducible refine (HS1.out x2 HX2.out).mono ?_
              rintro e x3 ⟨rfl, rfl⟩
              go_wp2_with fail
              with_reducible refine (HS2.out x2 HX2.out).mono ?_
              rintro e x3 ⟨rfl, rfl⟩
              have hBx := BW.out.trans (HX2.out.mono BW.out.size)
              obtain ⟨b7, o7, hA7, c70⟩ := HN7.out x2 hBx
              subst hA7
              have HBX2 := Lib.hid hBx
              clear hBx
              have HEQ := Lib.hid (equal_yes A1 A2 c1 c2 bx.length bx.length bx bx x2 rfl rfl rfl HR12.out HR2.out (by omega))
              go_wp2_with fail
              with_reducible refine HEQ.out.mono ?_
              rintro e x3 ⟨rfl, m, rfl⟩
              go_wp2
              go_roundw
              case rel => exact ⟨k + 1, by go_num, by omega, (show Aside _ from below_drewN HBX2.out m)⟩
              case measure => simp [intOf]; omega
            · obtain rfl : k = es5.length := by omega
              have HBF := Lib.hid ((HB9.out.trans (BW.out.mono HB9.out.size)))
              go_wp2
              go_ret
              exact ⟨rfl, HBW.out.trans ((HB5.out.trans (HBF.out.mono HB5.out.size)).mono HBW.out.size)⟩
  · have hlive : ∀ W', Below W.heap.size W W' → Calls Try.prog 17 #[] W' fun e w' => e = .returned (.bool true) ∧ Below W.heap.size W w' := fun W' hb => (dlive_any W').mono fun e w' ⟨h1, h2⟩ => ⟨h1, hb.trans (h2.mono hb.size)⟩
    have HLV := Lib.hid hlive
    clear hlive
    go_enter Try.func7, Try.ntmps7
    go_wp2_with fail
    rw [← HW.out]
    go_wp2_with fail
    with_reducible refine (dnew_any (R : Int) W (by omega)).mono ?_
    rintro e w1 ⟨rfl, -, hb1⟩
    have HB1 := Lib.hid hb1
    clear hb1
    obtain ⟨b0, b1, b2, b3, b4⟩ := HBX.out _ HB1.out
    go_wp2_with fail
    with_reducible refine (HLV.out _ HB1.out).mono ?_
    rintro e w2 ⟨rfl, hb2⟩
    have HB2 := Lib.hid hb2
    clear HB1 hb2 b0 b1 b2 b3 b4
    obtain ⟨b0, b1, b2, b3, b4⟩ := HBX.out _ HB2.out
    have fin : ∀ w', Below W.heap.size W w' → (Ending.returned (Value.bool true) = .returned (.bool true)) ∧ Below w.heap.size w w' := fun w' h => ⟨rfl, HBW.out.trans (h.mono HBW.out.size)⟩
    have FIN := Lib.hid fin
    clear fin
    by_cases g1 : bs.length ≤ 10000
    · have g1' : ¬ (10000 : Int) < (bs.length : Int) := by omega
      by_cases g2 : nm.size ≤ 10000
      · have g2' : ¬ (10000 : Int) < (nm.size : Int) := by omega
        have g3 : ¬ nt.size ≤ 10000 := fun h => hbig ⟨g1, g2, h⟩
        have g3' : (10000 : Int) < (nt.size : Int) := by omega
        go_wp2_with fail
        with_reducible refine (HLV.out _ HB2.out).mono ?_
        rintro e w3 ⟨rfl, hb3⟩
        go_wp2
        go_ret
        exact ⟨rfl, (FIN.out _ hb3).2⟩
      · have g2' : (10000 : Int) < (nm.size : Int) := by omega
        go_wp2_with fail
        with_reducible refine (HLV.out _ HB2.out).mono ?_
        rintro e w3 ⟨rfl, hb3⟩
        go_wp2
        go_ret
        exact ⟨rfl, (FIN.out _ hb3).2⟩
    · have g1' : (10000 : Int) < (bs.length : Int) := by omega
      go_wp2_with fail
      with_reducible refine (HLV.out _ HB2.out).mono ?_
      rintro e w3 ⟨rfl, hb3⟩
      go_wp2
      go_ret
      exact ⟨rfl, (FIN.out _ hb3).2⟩
end

set_option maxRecDepth 100000 in
theorem diskRefuses_lifted (os : Os) (started : os.Started) (H : Type) (enc : TypeId × Value → H) :
    ReturnsInHanded {} Try.checked os 7 .any (Rows.diskRefusesSpec.pre6 enc Try.prog Try.f7 Rows.diskRefusesRow.domain false) (Rows.diskRefusesSpec.post enc Try.prog Try.f7 false true false false) := by
  refine returnsInHanded_of_change (C := Try.checked) ownKn started (by kernel_rfl) Try.func7
    (ChangeSpec.witness6 (enc := enc) (C := Try.checked) false ⟨#[], #[.int .i64 0, .slice none 0 0, .agg #[.int .i64 0, .string ⟨#[]⟩, .string ⟨#[]⟩, .slice none 0 0, .int .i64 0]], []⟩ 8 (by kernel_rfl) (by kernel_rfl) (by kernel_rfl) (by kernel_rfl)) ?_
  intro W base args ds gs before hval0 hW hcnd _
  have hval : ∀ (j : Nat) t v, Try.f7.params[j]? = some t → args[j]? = some v → Value.okWide Try.prog W .any base t v := hval0
  have hW' := hW
  obtain ⟨p, q, hA0, hV, rfl, hfz, hnd⟩ := hW
  have hA : DataW.TrodAll enc Try.prog W 0 (fun _ => true) true Try.f7.params.toList args.toList ds p := hA0
  rw [Try.params7] at hA hval
  obtain ⟨v0, vs0, d0, ds0, p0, q0, hargs, rfl, rfl, h0, r0⟩ := trodAll_cons hA
  obtain ⟨v1, vs1, d1, ds1, p1, q1, rfl, rfl, rfl, h1, r1⟩ := trodAll_cons r0
  obtain ⟨v2, vs2, d2, ds2, p2, q2, rfl, rfl, rfl, h2, r2⟩ := trodAll_cons r1
  obtain ⟨rfl, rfl, rfl⟩ := trodAll_nil r2
  obtain rfl : args = #[v0, v1, v2] := by cases args; simp_all
  obtain ⟨rfl, rfl⟩ := trodVars_none hV
  obtain ⟨a0, rfl, rfl, rfl, w0⟩ := open_int Try.underlying3 (hval 0 3 v0 rfl rfl) h0
  obtain ⟨A1, c1, l1, rfl, hm1, hx1, ho1⟩ := open_ops (hval 1 36 v1 rfl rfl) h1
  obtain ⟨o2, rfl, ho2⟩ := open_op (hval 2 47 v2 rfl rfl) h2
  clear hA0 hval0 hA
  have b0 := bounds_i64 w0
  unfold maxLen at hm1
  refine (diskRefuses_walk a0 A1 c1 l1 o2 W hx1 hm1.1 hm1.2 ho1 ho2).mono fun e W' ⟨he, hg⟩ => ?_
  subst he
  exact ⟨_, rfl, law_end laidOut (by kernel_rfl) (by kernel_rfl) Try.underlying4 rfl hW' ⟨rfl, rfl, rfl⟩ hg⟩

theorem diskRefuses_holds : Rows.DiskRefusesSaid :=
  OpenClaim.holds_of_wide 7 Try.f7 rfl rfl rfl rfl rfl rfl rfl ⟨rfl, rfl, rfl, rfl, rfl⟩ rfl rfl rfl rfl rfl (by kernel_rfl) Try.func7 (by kernel_rfl)
    (of_decide_eq_true (by kernel_rfl)) (by unfold Func.isWrapper; first | (rw [if_pos (by decide +kernel)]; kernel_rfl) | (rw [if_neg (by decide +kernel)]; exact ⟨rfl, rfl⟩))
    (fun os started H enc _ => diskRefuses_lifted os started H enc)
#print axioms diskRefuses_holds

end Go.Proofs.Ytinjdlplbficiaa
