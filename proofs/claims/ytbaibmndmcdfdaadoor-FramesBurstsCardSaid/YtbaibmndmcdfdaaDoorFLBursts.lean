/- The law FramesBursts. -/
import Derived.Test.YtbaibmndmcdfdaaDoorFLPlace
namespace Go.Proofs.YtbaibmndmcdfdaaDoor.F
open Go.RowKit
open D (Sec Kept loadS storeS allocS loadS_eq storeS_eq allocS_eq neqS neqS_eq eqlS eqlS_eq)
set_option maxRecDepth 100000
attribute [local go_sem ↓] loadS_eq storeS_eq allocS_eq boxS_eq allocF_eq storeF_eq loadF_eq convB_eq neqS_eq eqlS_eq eqlF_eq neqF_eq boxF_eq boxO_eq loadO_eq

theorem turn8 (c j : Nat) (hc : c < 256) (hj : j < 8) : bits .xor .u8 (c : Int) (2 ^ j % 256) = ((c ^^^ 2 ^ j : Nat) : Int) := by
  have hp : (2 : Nat) ^ j < 2 ^ 8 := Nat.pow_lt_pow_right (by omega) hj
  have e : (2 : Int) ^ j % 256 = ((2 ^ j : Nat) : Int) := by
    have e : (2 : Int) ^ j = ((2 ^ j : Nat) : Int) := by simp
    rw [e]
    generalize (2 : Nat) ^ j = p at hp
    omega
  rw [e]
  have hx := byte_xor_lt hc (show (2 : Nat) ^ j < 256 by omega)
  have h1 : ∀ a : Nat, a < 256 → (BitVec.ofInt 8 (a : Int)).toNat = a := fun a ha => by rw [BitVec.ofInt_natCast, BitVec.toNat_ofNat]; exact Nat.mod_eq_of_lt (by omega)
  show IntKind.u8.wrap ((BitVec.ofInt 8 (c : Int) ^^^ BitVec.ofInt 8 ((2 ^ j : Nat) : Int)).toNat : Int) = _
  rw [BitVec.toNat_xor, h1 c hc, h1 _ (by omega), IntKind.wrap_u8']
  omega
/-- The sector at X, its copy at Y, the argument's box at b. -/
structure US (w : World) (b X Y : Nat) (x : Od) (q : Sec) (L : List UInt8) (W : World) : Prop where
  sx : BAt W X L
  sy : BAt W Y q.l
  ob : OAt W b x
  below : Below w.heap.size w W
  wX : w.heap.size ≤ X
  xy : X ≠ Y
  xb : b ≠ X
theorem US.set {w : World} {b X Y : Nat} {x : Od} {q : Sec} {L : List UInt8} {W : World} (h : US w b X Y x q L W) (o : Nat) (c : UInt8) : US w b X Y x q (L.set o c) (W.setCell ⟨X, o, none⟩ (.int .u8 c.toNat)) := by
  have k := Kept.setCell (X := fun k => k = X) (Kept.refl _ W) ⟨X, o, none⟩ rfl (.int .u8 c.toNat)
  exact ⟨h.sx.set o c, h.sy.kept k (fun e => h.xy e.symm), (k.block b h.ob.lt h.xb).trans h.ob, h.below.trans (k.toBelow h.below.size (fun k e => by have := h.wX; omega)), h.wX, h.xy, h.xb⟩
theorem US.more {w : World} {b X Y : Nat} {x : Od} {q : Sec} {L : List UInt8} {W W' : World} (h : US w b X Y x q L W) (k : Below W.heap.size W W') : US w b X Y x q L W' :=
  ⟨h.sx.below k h.sx.lt, h.sy.below k h.sy.lt, h.ob.below k h.ob.lt, h.below.trans (k.mono h.below.size), h.wX, h.xy, h.xb⟩

set_option maxHeartbeats 4000000 in
theorem framesBursts_any (x : Od) (bit pat : Nat) (w : World) (hE : Env w) (hw : 1 ≤ w.heap.size) (hq : x.f.seq < 4294967296) (hbit : bit < 65536) (hpat : pat < 4294967296) :
    Calls Tryd.prog 7 #[.agg (odA x), .int .u16 bit, .int .u32 pat] w (TrueP w) := by
  have HE := Lib.hid (fun (W : World) (h : Below w.heap.size w W) => hE.below h hw)
  have HW := Lib.hid (fun (W : World) (h : Below w.heap.size w W) => Nat.le_trans hw h.size)
  obtain ⟨w1, hbx, hO, hb1⟩ := run_boxO x w
  have HO1 := Lib.hid hO
  have HB1 := Lib.hid hb1
  have HA := Lib.hid (fun (W : World) (h : Below w.heap.size w W) => awake_any W (HE.out W h) (HW.out W h))
  have c0 := hO.cell 0 (.int .u8 x.at_.toNat) rfl
  have c1 := hO.cell 1 (.int .i64 x.f.kind) rfl
  have c2 := hO.cell 2 (.int .u32 x.f.seq) rfl
  have c3 := hO.cell 3 (.string x.f.data) rfl
  clear hE hw hO hb1
  by_cases hbig : 112 < x.f.data.size
  · have d1 : decide ((112 : Int) < x.f.data.size) = true := decide_eq_true (by omega)
    have HA1 := Lib.hid (HA.out w1 HB1.out)
    clear hbig
    go_enter Tryd.func7, Tryd.ntmps7
    go_wp2_with fail
    refine HA1.out.mono ?_
    rintro e w2 ⟨rfl, hb2⟩
    have HB2 := Lib.hid (HB1.out.trans (hb2.mono HB1.out.size))
    clear hb2
    go_wp2_with fail
    go_ret
    exact ⟨rfl, HB2.out⟩
  have d1 : decide ((112 : Int) < x.f.data.size) = false := decide_eq_false (by omega)
  have hki := kk_in x.f.kind
  have hsz : x.f.data.data.toList.length ≤ 112 := by rw [← Lib.size_eq]; omega
  have hE0 := kk_seal x.at_ x.f.kind x.f.data.data.toList.length hsz
  have ha256 := x.at_.toNat_lt
  have hop := open_seal (x.at_.toNat : Int) ⟨1 + kk x.f.kind, x.f.seq, x.f.data⟩ (x.at_.toNat : Int) hE0 hq (by omega)
  obtain ⟨q, hqV⟩ : ∃ q, sealV (x.at_.toNat : Int) (1 + kk x.f.kind) x.f.seq x.f.data.data.toList = q := ⟨_, rfl⟩
  have HS1 := Lib.hid (seal_as hqV hE0 w1 (HE.out _ HB1.out) (HW.out _ HB1.out) hq)
  have hop1 : openE (x.at_.toNat : Int) q = 0 := by rw [← hqV]; have := hop.1; rw [if_pos rfl] at this; exact this
  have hr := rem255 x.f.kind
  have hka := wrap64_in (kk x.f.kind) (by omega) (by omega)
  have hkb := wrap64_in (1 + kk x.f.kind) (by omega) (by omega)
  obtain ⟨k, hkk⟩ : ∃ k, kk x.f.kind = k := ⟨_, rfl⟩
  rw [hkk] at HS1 hr hka hkb hki
  obtain ⟨a, haa⟩ : ∃ a, x.at_.toNat = a := ⟨_, rfl⟩
  rw [haa] at HS1 c0 hop1
  have HOP := Lib.hid hop1
  have HLT := Lib.hid (show a < 256 by rw [← haa]; exact x.at_.toNat_lt)
  have HC0 : Hid (∀ W, OAt W w.heap.size x → W.cell? ⟨w.heap.size, 0, none⟩ = some (.int .u8 (a : Nat))) := Lib.hid fun W h => by rw [← haa]; exact h.cell 0 _ rfl
  clear hbig hsz hE0 hop hqV hop1 hkk haa hki ha256
  have hwa := wrap64_in (a : Int) (by omega) (by have := HLT.out; omega)
  have hwb := wrap64_in (bit : Int) (by omega) (by omega)
  obtain ⟨p, hp⟩ : ∃ p, bit % 1024 = p := ⟨_, rfl⟩
  have hp8 : p < 1024 := by rw [← hp]; exact Nat.mod_lt _ (by omega)
  have hpI : (bit : Int) % 1024 = p := by rw [← hp]; simp
  have hpT : (bit : Int).tmod 1024 = p := by rw [Int.tmod_eq_emod_of_nonneg (by omega)]; exact hpI
  have HP8 := Lib.hid hp8
  clear hp
  go_enter Tryd.func7, Tryd.ntmps7
  go_wp2_with fail
  refine HS1.out.mono ?_
  rintro e w2 ⟨rfl, hb2⟩
  obtain ⟨w3, has, hss, hB, hb3⟩ := lay_sec w2 q
  obtain ⟨w4, has', hss', hB', hb4⟩ := lay_sec w3 q
  have hl := hB.load
  have HU := Lib.hid (show US w w.heap.size w2.heap.size w3.heap.size x q q.l w4 from
    ⟨hB.below hb4 hB.lt, hB', ((HO1.out.below hb2 HO1.out.lt).below hb3 (Nat.lt_of_lt_of_le HO1.out.lt hb2.size)).below hb4 (Nat.lt_of_lt_of_le HO1.out.lt (Nat.le_trans hb2.size hb3.size)),
      ((HB1.out.trans (hb2.mono HB1.out.size)).trans (hb3.mono (Nat.le_trans HB1.out.size hb2.size))).trans (hb4.mono (Nat.le_trans HB1.out.size (Nat.le_trans hb2.size hb3.size))),
      Nat.le_trans HB1.out.size hb2.size, by have := hB.lt; omega, by have := HO1.out.lt; have := hb2.size; omega⟩)
  clear hb2 hb3 hb4 hB hB' HS1 hbx c0 c1 c2 c3 hr hka hkb HO1 HB1
  go_wp2_with fail
  clear hl has hss has' hss' d1
  go_loopw [10] (fun i wr => ∃ (k : Nat), k ≤ 32 ∧ i = .int .i64 k ∧ Hid (∃ L : List UInt8, L.length = 128 ∧ US w w.heap.size w2.heap.size w3.heap.size x q L wr ∧ numV L = burst p k 128 pat ^^^ numV q.l)) (fun i _ => 32 - (intOf i).toNat)
  case atStart => exact ⟨0, by omega, rfl, Lib.hid ⟨q.l, q.len, HU.out, by rw [burst_zero, Nat.zero_xor]⟩⟩
  case round =>
    obtain ⟨k, hk, rfl, hrow⟩ := hrel
    obtain ⟨L, hL, hus, hnum⟩ := hrow.out
    have HLL := Lib.hid hL
    have HUS := Lib.hid hus
    have HNUM := Lib.hid hnum
    clear hL hus hnum HU
    by_cases hlt : k < 32
    · by_cases hat : p + k < 1024
      · have t2 : decide ((p : Int) + k < 1024) = true := decide_eq_true (by omega)
        by_cases hc : pat / 2 ^ k % 2 = 1
        · have t1 : (((pat : Int) / 2 ^ k).tmod 2 == 1) = true := by
            have e : ((pat : Int) / 2 ^ k) = ((pat / 2 ^ k : Nat) : Int) := by simp
            rw [e, Int.tmod_eq_emod_of_nonneg (Int.natCast_nonneg _), beq_iff_eq]
            generalize pat / 2 ^ k = z at hc
            omega
          have hq8 : (p + k) / 8 < L.length := by rw [HLL.out]; omega
          have hcell := HUS.out.sx.cell ((p + k) / 8) hq8
          have hfz := HUS.out.sx.frozen ((p + k) / 8)
          have hby := byte_lt L ((p + k) / 8) hq8
          have hT := turn8 L[(p + k) / 8].toNat ((p + k) % 8) hby (by omega)
          have i1 : 0 ≤ ((p : Int) + k) / 8 := by omega
          have i2 : ((p : Int) + k) / 8 < 128 := by omega
          have i3 : (((p : Int) + k) / 8).toNat = (p + k) / 8 := by omega
          have i4 : (((p : Int) + k) % 8).toNat = (p + k) % 8 := by omega
          have i5 : ((p : Int) + k).tdiv 8 = ((p : Int) + k) / 8 := Int.tdiv_eq_ediv_of_nonneg (by omega)
          have i6 : ((p : Int) + k).tmod 8 = ((p : Int) + k) % 8 := Int.tmod_eq_emod_of_nonneg (by omega)
          have HS1 := Lib.hid (burst_succ p k 128 pat)
          have hcc : pat / 2 ^ k % 2 = 1 ∧ p + k < 8 * 128 := ⟨hc, by omega⟩
          have HS2 := Lib.hid (show burst p (k + 1) 128 pat = 2 ^ (p + k) ^^^ burst p k 128 pat by rw [HS1.out, if_pos hcc])
          have hxl := byte_xor_lt hby (show 2 ^ ((p + k) % 8) < 256 by
            have : (2 : Nat) ^ ((p + k) % 8) < 2 ^ 8 := Nat.pow_lt_pow_right (by omega) (by omega)
            omega)
          have HTN := Lib.hid (show (L[(p + k) / 8].toNat ^^^ 2 ^ ((p + k) % 8)).toUInt8.toNat = L[(p + k) / 8].toNat ^^^ 2 ^ ((p + k) % 8) by rw [Nat.toUInt8_eq, UInt8.toNat_ofNat']; omega)
          have hset := HUS.out.set ((p + k) / 8) (L[(p + k) / 8].toNat ^^^ 2 ^ ((p + k) % 8)).toUInt8
          rw [HTN.out] at hset
          have hnt := numV_turn L (p + k) hq8 _ HTN.out
          have HROW := Lib.hid (show ∃ L' : List UInt8, L'.length = 128 ∧ US w w.heap.size w2.heap.size w3.heap.size x q L' (wr.setCell ⟨w2.heap.size, (p + k) / 8, none⟩ (.int .u8 (L[(p + k) / 8].toNat ^^^ 2 ^ ((p + k) % 8) : Nat))) ∧ numV L' = burst p (k + 1) 128 pat ^^^ numV q.l from
            ⟨_, by rw [List.length_set]; exact HLL.out, hset, by rw [hnt, HNUM.out, HS2.out, Nat.xor_assoc]⟩)
          clear hc hcc hset hnt hxl hrow
          go_wp2_with fail
          go_roundw
          case rel => exact ⟨k + 1, by omega, by go_num, HROW⟩
          case measure => simp [intOf]; omega
        · have t1 : (((pat : Int) / 2 ^ k).tmod 2 == 1) = false := by
            have e : ((pat : Int) / 2 ^ k) = ((pat / 2 ^ k : Nat) : Int) := by simp
            rw [e, Int.tmod_eq_emod_of_nonneg (Int.natCast_nonneg _), beq_eq_false_iff_ne]
            generalize pat / 2 ^ k = z at hc
            omega
          have HS2 := Lib.hid (show burst p (k + 1) 128 pat = burst p k 128 pat by rw [burst_succ, if_neg (fun h => hc h.1), Nat.zero_xor])
          clear hc hrow
          go_wp2_with fail
          go_roundw
          case rel => exact ⟨k + 1, by omega, by go_num, Lib.hid ⟨L, HLL.out, HUS.out, by rw [HS2.out]; exact HNUM.out⟩⟩
          case measure => simp [intOf]; omega
      · have t2 : decide ((p : Int) + k < 1024) = false := decide_eq_false (by omega)
        have HS2 := Lib.hid (show burst p (k + 1) 128 pat = burst p k 128 pat by rw [burst_succ, if_neg (fun h => hat (by have := h.2; omega)), Nat.zero_xor])
        clear hrow
        go_wp2_with fail
        go_roundw
        case rel => exact ⟨k + 1, by omega, by go_num, Lib.hid ⟨L, HLL.out, HUS.out, by rw [HS2.out]; exact HNUM.out⟩⟩
        case measure => simp [intOf]; omega
    · obtain rfl : k = 32 := by omega
      clear hrow
      obtain ⟨t, ht⟩ : ∃ t : Sec, t.l = L := ⟨⟨L, HLL.out⟩, rfl⟩
      have HIFF := Lib.hid (open_burst (a : Int) q t p pat HOP.out HP8.out hpat (by rw [ht]; exact HNUM.out))
      have hus : US w w.heap.size w2.heap.size w3.heap.size x q t.l wr := by rw [ht]; exact HUS.out
      have HU2 := Lib.hid hus
      have hl := hus.sx.load
      have cc := HC0.out _ hus.ob
      clear ht hus hpI hpT hwb
      by_cases htq : t = q
      · have HOA := Lib.hid (open_as rfl (HIFF.out.2 htq) wr (HE.out _ HU2.out.below) (HW.out _ HU2.out.below))
        subst htq
        go_wp2_with fail
        refine HOA.out.mono ?_
        rintro e w4 ⟨rfl, hb4⟩
        obtain ⟨w5, haf, hsf, -, hb5⟩ := lay_fr w4 (openF (a : Int) t)
        have hU5 := (HU2.out.more hb4).more (hb5.mono (Nat.le_refl _))
        have hl1 := hU5.sx.load
        have hl2 := hU5.sy.load
        have heq := D.run_eqlS w5 t t
        rw [decide_eq_true rfl] at heq
        have HB5 := Lib.hid hU5.below
        have HA5 := Lib.hid (HA.out w5 HB5.out)
        clear hb4 hb5 hU5 hl cc
        go_wp2_with fail
        refine HA5.out.mono ?_
        rintro e w6 ⟨rfl, hb6⟩
        have HB6 := Lib.hid (HB5.out.trans (hb6.mono HB5.out.size))
        clear hb6
        go_wp2_with fail
        go_ret
        exact ⟨rfl, HB6.out⟩
      · obtain ⟨ee, hee⟩ : ∃ ee, openE (a : Int) t = ee := ⟨_, rfl⟩
        have h0 : ¬ ee = 0 := fun e => htq (HIFF.out.1 (by rw [hee, e]))
        have HOA := Lib.hid (open_as (openF_no hee h0) hee wr (HE.out _ HU2.out.below) (HW.out _ HU2.out.below))
        clear hee
        go_wp2_with fail
        refine HOA.out.mono ?_
        rintro e w4 ⟨rfl, hb4⟩
        obtain ⟨w5, haf, hsf, hfz, hb5⟩ := lay_fr w4 Fr.zero
        have hU5 := (HU2.out.more hb4).more (hb5.mono (Nat.le_refl _))
        have hl1 := hU5.sx.load
        have hl2 := hU5.sy.load
        have hlf := run_loadF hfz
        have heq := D.run_eqlS w5 t q
        rw [decide_eq_false htq] at heq
        have heqf : (eqlF (.agg (frA Fr.zero)) (.agg #[.int .i64 0, .int .u32 0, .string ⟨#[]⟩])).run Tryd.prog w5 = .ok (.bool true) w5 := by
          have := run_eqlF w5 Fr.zero Fr.zero
          rw [decide_eq_true rfl] at this
          exact this
        have HB5 := Lib.hid hU5.below
        have HA5 := Lib.hid (HA.out w5 HB5.out)
        clear hb4 hb5 hU5 hl cc
        go_wp2_with fail
        refine HA5.out.mono ?_
        rintro e w6 ⟨rfl, hb6⟩
        have HB6 := Lib.hid (HB5.out.trans (hb6.mono HB5.out.size))
        clear hb6
        go_wp2_with fail
        go_ret
        exact ⟨by show Ending.returned (.bool (!(ee == 0))) = _; rw [beq_false_of_ne h0]; rfl, HB6.out⟩
end Go.Proofs.YtbaibmndmcdfdaaDoor.F
