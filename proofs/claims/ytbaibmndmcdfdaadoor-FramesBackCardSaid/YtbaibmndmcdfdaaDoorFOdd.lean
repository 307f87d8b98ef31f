/- The law's odd: the sector of a frame with changes. -/
import Derived.Test.YtbaibmndmcdfdaaDoorFLPlace
namespace Go.Proofs.YtbaibmndmcdfdaaDoor.F
open Go.RowKit
open D (Sec Kept loadS storeS allocS loadS_eq storeS_eq allocS_eq neqS neqS_eq eqlS eqlS_eq ElemsAt)
set_option maxRecDepth 100000
attribute [local go_sem ↓] loadS_eq storeS_eq allocS_eq boxS_eq allocF_eq storeF_eq loadF_eq convB_eq neqS_eq eqlS_eq eqlF_eq neqF_eq boxF_eq boxO_eq loadO_eq

/-- The changes. -/
def chgL (l : List UInt8) (c : UInt8 × UInt8) : List UInt8 := l.set (c.1.toNat % 128) (l.getD (c.1.toNat % 128) 0 ^^^ c.2)
def chgs (l : List UInt8) (L : List (UInt8 × UInt8)) : List UInt8 := L.foldl chgL l
theorem chgs_len (L : List (UInt8 × UInt8)) : ∀ l, (chgs l L).length = l.length := by
  induction L with
  | nil => intro l; rfl
  | cons c L ih => intro l; show (chgs (chgL l c) L).length = _; rw [ih]; exact List.length_set
theorem chgs_snoc (l : List UInt8) (L : List (UInt8 × UInt8)) (c : UInt8 × UInt8) : chgs l (L ++ [c]) = chgL (chgs l L) c := by unfold chgs; rw [List.foldl_append]; rfl
theorem xor8 (a b : Nat) (ha : a < 256) (hb : b < 256) : bits .xor .u8 (a : Int) (b : Int) = ((a ^^^ b : Nat) : Int) := by
  have hx := byte_xor_lt ha hb
  have h1 : ∀ a : Nat, a < 256 → (BitVec.ofInt 8 (a : Int)).toNat = a := fun a ha => by rw [BitVec.ofInt_natCast, BitVec.toNat_ofNat]; exact Nat.mod_eq_of_lt (by omega)
  show IntKind.u8.wrap ((BitVec.ofInt 8 (a : Int) ^^^ BitVec.ofInt 8 (b : Int)).toNat : Int) = _
  rw [BitVec.toNat_xor, h1 a ha, h1 b hb, IntKind.wrap_u8']
  omega
/-- The sector from which the changes go out, the list behind them, and the sector. -/
def oddS0 (x : Od) : Sec := if x.f.kind ≠ 0 ∧ x.f.data.size ≤ 112 then sealV x.at_.toNat (1 + kk x.f.kind) x.f.seq x.f.data.data.toList else Sec.zero
def oddL (x : Od) : List UInt8 := chgs (oddS0 x).l (x.L.take 200)
def oddV (x : Od) : Sec := mkS (if x.fix then fixL (oddL x) else oddL x)
theorem oddL_len (x : Od) : (oddL x).length = 128 := by unfold oddL; rw [chgs_len, (oddS0 x).len]

/-- The state of odd: z the result, X the sector, b the box. -/
structure DS (w : World) (z X b : Nat) (x : Od) (l : List UInt8) (W : World) : Prop where
  rs : RS w z X l W
  ob : OAt W b x
  ch : ElemsAt 2 W x.ch (x.L.map chC)
  wb : w.heap.size ≤ b
  bX : b ≠ X
  wX : w.heap.size ≤ X
theorem DS.more {w : World} {z X b : Nat} {x : Od} {l : List UInt8} {W W' : World} (h : DS w z X b x l W) (k : Below W.heap.size W W') : DS w z X b x l W' :=
  ⟨h.rs.more k, h.ob.below k h.ob.lt, h.ch.below k (Nat.le_refl _), h.wb, h.bX, h.wX⟩
/-- The slice of the changes lies in old memory. -/
def OldCh (w : World) (v : Value) : Prop := ∀ g o n c, v = .slice (some ⟨g, o, none⟩) n c → n ≠ 0 → g < w.heap.size
theorem oldCh_of {w : World} {v : Value} {L : List (UInt8 × UInt8)} (h : ElemsAt 2 w v (L.map chC)) : OldCh w v := by
  intro g o n c e hn
  rcases h with ⟨a, c', rfl, h0⟩ | ⟨g', o', c', rfl, hg, _⟩
  · cases e; exact absurd rfl hn
  · cases e; exact hg
theorem DS.wrote {w : World} {z X b : Nat} {x : Od} {l m : List UInt8} {W W' : World} (h : DS w z X b x l W) (ho : OldCh w x.ch) (k : Wrote X m W W') : DS w z X b x m W' :=
  ⟨h.rs.wrote k, (k.kept.block b h.ob.lt h.bX).trans h.ob, h.ch.kept k.kept (fun g o n c e hn hx => by have h1 := ho g o n c e hn; have h2 := h.wX; have h3 : g = X := hx; omega), h.wb, h.bX, h.wX⟩
theorem ch_cells {W : World} {v : Value} {L : List (UInt8 × UInt8)} (h : ElemsAt 2 W v (L.map chC)) (k : Nat) (hk : k < L.length) : ∃ g o c, v = .slice (some ⟨g, o, none⟩) L.length c ∧ W.cell? ⟨g, o + k * 2, none⟩ = some (.int .u8 L[k].1.toNat) ∧ W.cell? ⟨g, o + k * 2 + 1, none⟩ = some (.int .u8 L[k].2.toNat) := by
  rcases h with ⟨a, c', rfl, h0⟩ | ⟨g, o, c, rfl, hg, hc⟩
  · rw [List.map_eq_nil_iff] at h0
    rw [h0] at hk; simp at hk
  · have he : (L.map chC)[k]? = some (chC L[k]) := by simp [hk]
    refine ⟨g, o, c, by rw [List.length_map], ?_, ?_⟩
    · have := hc k _ he 0 _ rfl
      simpa using this
    · exact hc k _ he 1 _ rfl
theorem ch_val {W : World} {v : Value} {L : List (UInt8 × UInt8)} (h : ElemsAt 2 W v (L.map chC)) : ∃ a c, v = .slice a L.length c := by
  obtain ⟨a, c, e⟩ := h.val
  exact ⟨a, c, by rw [e, List.length_map]⟩
theorem chg_step (l : List UInt8) (L : List (UInt8 × UInt8)) (k : Nat) (hk : k < L.length) : chgs l (L.take (k + 1)) = chgL (chgs l (L.take k)) L[k] := by
  rw [List.take_succ_eq_append_getElem hk, chgs_snoc]

theorem wrote_row {W : World} {b : Nat} {l : List UInt8} (h : BAt W b l) (s : Sec) : Wrote b s.l W (W.setRow b s.A) :=
  ⟨setRow_heap W b _ s.A _ _ h, Kept.setRow (X := fun k => k = b) (Kept.refl _ W) b rfl _, by simp⟩
theorem storeS_at {W : World} {b : Nat} {l : List UInt8} (h : BAt W b l) (hl : l.length = 128) (s : Sec) : (storeS (.pointer (some ⟨b, 0, none⟩)) (.agg s.A)).run Tryd.prog W = .ok () (W.setRow b s.A) :=
  D.run_storeS_block (Z := mkS l) (by
    unfold BAt at h
    rw [h]; unfold D.Sec.A D.Sec.cs; rw [mkS_l hl]; rfl) s
theorem odd_three (x : Od) : (x.f.kind = 0 ∧ oddS0 x = Sec.zero) ∨ (¬ x.f.kind = 0 ∧ x.f.data.size ≤ 112 ∧ oddS0 x = sealV x.at_.toNat (1 + kk x.f.kind) x.f.seq x.f.data.data.toList) ∨ (¬ x.f.kind = 0 ∧ 112 < x.f.data.size ∧ oddS0 x = Sec.zero) := by
  unfold oddS0
  by_cases h0 : x.f.kind = 0
  · exact .inl ⟨h0, if_neg (fun h => h.1 h0)⟩
  · by_cases h1 : x.f.data.size ≤ 112
    · exact .inr (.inl ⟨h0, h1, if_pos ⟨h0, h1⟩⟩)
    · exact .inr (.inr ⟨h0, by omega, if_neg (fun h => h1 h.2)⟩)
/-- The round of the changes. -/
def chgV (l : List UInt8) (c : UInt8 × UInt8) : UInt8 := l.getD (c.1.toNat % 128) 0 ^^^ c.2

/-- What the loop's list makes of the sector. -/
structure OddIs (x : Od) (q : Sec) : Prop where
  e : oddV x = mkS (if x.fix then fixL (chgs q.l (x.L.take 200)) else chgs q.l (x.L.take 200))
structure LenIs (l : List UInt8) : Prop where
  e : l.length = 128
set_option maxHeartbeats 1000000 in
theorem odd_any (x : Od) (w : World) (hx : OdIn w x) :
    Calls Tryd.prog 13 #[.agg (odA x)] w fun e w' => e = .returned (.agg (oddV x).A) ∧ Below w.heap.size w w' := by
  obtain ⟨hq, hch, hlen⟩ := hx
  obtain ⟨w1, hbx, hO, hb1⟩ := run_boxO x w
  obtain ⟨w2, w3, -, -, ha1, ha2, hrs⟩ := two_alloc w1
  have HOLD := Lib.hid (oldCh_of hch)
  obtain ⟨sa, sc, hsl⟩ := ch_val hch
  have HSL := Lib.hid hsl
  have hb3 := hrs.below
  have HD := Lib.hid (show DS w w1.heap.size w2.heap.size w.heap.size x row0 w3 from
    ⟨⟨hrs.at_, hrs.res, hb1.trans (hb3.mono hb1.size), hrs.zb, hb1.size⟩, hO.below hb3 hO.lt, hch.below (hb1.trans (hb3.mono hb1.size)) (Nat.le_refl _), Nat.le_refl _, by have := hO.lt; have := hrs.zb; omega, by have := hb1.size; have := hrs.zb; omega⟩)
  have HN := Lib.hid (show x.L.length ≤ maxLen from hlen)
  have c0 := HD.out.ob.cell 0 (.int .u8 x.at_.toNat) rfl
  have c1 := HD.out.ob.cell 1 (.int .i64 x.f.kind) rfl
  have c2 := HD.out.ob.cell 2 (.int .u32 x.f.seq) rfl
  have c3 := HD.out.ob.cell 3 (.string x.f.data) rfl
  clear hrs hb3 hO hb1 hch hlen hsl
  have HW3 := Lib.hid (HD.out.rs.below)
  rcases odd_three x with ⟨hk0, hV⟩ | ⟨hk0, hs, hV⟩ | ⟨hk0, hs, hV⟩
  case' inl =>
    have HV := Lib.hid hV
    clear hV
    go_enter Tryd.func13, Tryd.ntmps13
    go_wp2_with fail
    have HD4 : Hid (DS w w1.heap.size w2.heap.size w.heap.size x (oddS0 x).l w3) := Lib.hid (by rw [HV.out]; exact HD.out)
    clear hbx ha1 ha2 c0 c1 c2 c3 HV HD HW3
    generalize w3 = W4 at *
  case' inr.inl =>
    have HV := Lib.hid hV
    have d1 : decide ((x.f.data.size : Int) ≤ 112) = true := decide_eq_true (by omega)
    have hki := kk_in x.f.kind
    have hsz : x.f.data.data.toList.length ≤ 112 := by rw [← Lib.size_eq]; omega
    have hE0 := kk_seal x.at_ x.f.kind x.f.data.data.toList.length hsz
    have HS1 := Lib.hid (refSeal_as hV.symm hE0 w3 hq)
    have hr := rem255 x.f.kind
    have hka := wrap64_in (kk x.f.kind) (by omega) (by omega)
    have hkb := wrap64_in (1 + kk x.f.kind) (by omega) (by omega)
    obtain ⟨k, hkk⟩ : ∃ k, kk x.f.kind = k := ⟨_, rfl⟩
    rw [hkk] at HS1 hr hka hkb hki
    have hwa := wrap64_in (x.at_.toNat : Int) (by omega) (by have := x.at_.toNat_lt; omega)
    obtain ⟨a, haa⟩ : ∃ a, x.at_.toNat = a := ⟨_, rfl⟩
    rw [haa] at HS1 c0 hwa
    clear hV hs hki hsz hE0 hkk haa
    go_enter Tryd.func13, Tryd.ntmps13
    go_wp2_with fail
    refine HS1.out.mono ?_
    rintro e w4 ⟨rfl, hb4⟩
    have hd4 := HD.out.more hb4
    have hst := storeS_at hd4.rs.at_ rfl (oddS0 x)
    have HD4 := Lib.hid (hd4.wrote HOLD.out (wrote_row hd4.rs.at_ (oddS0 x)))
    clear hd4 hb4 HS1
    generalize w4.setRow w2.heap.size (oddS0 x).A = W4 at *
    go_wp2_with fail
    clear hbx ha1 ha2 c0 c1 c2 c3 HV HD HW3 hst d1 hr hka hkb hwa
  case' inr.inr =>
    have HV := Lib.hid hV
    have d1 : decide ((x.f.data.size : Int) ≤ 112) = false := decide_eq_false (by omega)
    clear hV hs
    go_enter Tryd.func13, Tryd.ntmps13
    go_wp2_with fail
    have HD4 : Hid (DS w w1.heap.size w2.heap.size w.heap.size x (oddS0 x).l w3) := Lib.hid (by rw [HV.out]; exact HD.out)
    clear hbx ha1 ha2 c0 c1 c2 c3 HV HD HW3 d1
    generalize w3 = W4 at *
  all_goals
    clear hk0
    have HIS : OddIs x (oddS0 x) := ⟨rfl⟩
    generalize oddS0 x = sq at *
    go_loopw [4] (fun i wr => ∃ k : Nat, k ≤ 200 ∧ k ≤ x.L.length ∧ i = .int .i64 k ∧ Hid (DS w w1.heap.size w2.heap.size w.heap.size x (chgs sq.l (x.L.take k)) wr)) (fun i _ => 200 - (intOf i).toNat)
    case atStart => exact ⟨0, by omega, by omega, rfl, HD4⟩
    case round =>
      obtain ⟨k, hk, hkn, rfl, hP⟩ := hrel
      have hL0 : (chgs sq.l (x.L.take k)).length = 128 := by rw [chgs_len, sq.len]
      have HL0 : LenIs (chgs sq.l (x.L.take k)) := ⟨hL0⟩
      have hnm := HN.out
      unfold maxLen at hnm
      have csl := hP.out.ob.cell 4 (.slice sa x.L.length sc) (by rw [← HSL.out]; rfl)
      by_cases hkl : k < x.L.length
      · have t1 : decide ((k : Int) < (x.L.length : Nat)) = true := decide_eq_true (by omega)
        by_cases hk2 : k < 200
        · have t2 : decide ((k : Int) < 200) = true := decide_eq_true (by omega)
          obtain ⟨g, o, c, hv, cc1, cc2⟩ := ch_cells hP.out.ch k hkl
          have hsame : sa = some ⟨g, o, none⟩ ∧ sc = c := by
            have := HSL.out.symm.trans hv
            cases this; exact ⟨rfl, rfl⟩
          obtain ⟨rfl, rfl⟩ := hsame
          have HS := Lib.hid (chg_step sq.l x.L k hkl)
          have hp : x.L[k].1.toNat % 128 < (chgs sq.l (x.L.take k)).length := by rw [hL0]; exact Nat.mod_lt _ (by omega)
          have hst0 := fun q => (Wrote.refl hP.out.rs.at_).step (o := x.L[k].1.toNat % 128) (chgV (chgs sq.l (x.L.take k)) x.L[k]) q
          have HZ0 := Lib.hid (fun q => hP.out.wrote HOLD.out (hst0 q))
          have hcell := hP.out.rs.at_.cell _ hp
          have hfz := hP.out.rs.at_.frozen (x.L[k].1.toNat % 128)
          have hby := byte_lt _ _ hp
          have hb2 : x.L[k].2.toNat < 256 := x.L[k].2.toNat_lt
          have hb1 : x.L[k].1.toNat < 256 := x.L[k].1.toNat_lt
          have hvv : (chgV (chgs sq.l (x.L.take k)) x.L[k]).toNat = (chgs sq.l (x.L.take k))[x.L[k].1.toNat % 128].toNat ^^^ x.L[k].2.toNat := by
            unfold chgV
            rw [UInt8.toNat_xor, List.getD_eq_getElem?_getD, List.getElem?_eq_getElem hp]; rfl
          rw [hvv] at HZ0
          have hX := xor8 _ _ hby hb2
          have HZ : Hid (∀ q, DS w w1.heap.size w2.heap.size w.heap.size x (chgs sq.l (x.L.take (k + 1))) ((wr.setCell ⟨w2.heap.size, x.L[k].1.toNat % 128, none⟩ (.int .u8 ((chgs sq.l (x.L.take k))[x.L[k].1.toNat % 128].toNat ^^^ x.L[k].2.toNat : Nat))).drewN q)) := Lib.hid (fun q => by rw [HS.out]; exact HZ0.out q)
          generalize (chgs sq.l (x.L.take k))[x.L[k].1.toNat % 128].toNat = u at *
          generalize x.L[k].1.toNat = z1 at *
          generalize x.L[k].2.toNat = z2 at *
          have h128 : z1 % 128 < 128 := Nat.mod_lt _ (by omega)
          clear hst0 HZ0 hvv hp hv hP hL0 hnm HS HD4 hby
          go_wp2_with fail
          go_region
          go_wp2_with fail
          go_roundw
          case rel => exact ⟨k + 1, by omega, by omega, by go_num, Lib.hid (HZ.out 1)⟩
          case measure => simp [intOf]; omega
        · have t2 : decide ((k : Int) < 200) = false := decide_eq_false (by omega)
          have HF : Hid (DS w w1.heap.size w2.heap.size w.heap.size x (chgs sq.l (x.L.take 200)) wr) := Lib.hid (by
            have := hP.out
            rwa [show k = 200 by omega] at this)
          have hl1 : (chgs sq.l (x.L.take 200)).length = 128 := by rw [chgs_len, sq.len]
          have HL1 : LenIs (chgs sq.l (x.L.take 200)) := ⟨hl1⟩
          have c5 := HF.out.ob.cell 5 (.bool x.fix) rfl
          have hIS := HIS.e
          generalize chgs sq.l (x.L.take 200) = lz at *
          by_cases hfix : x.fix = true
          · have HFX := Lib.hid (refFixed_any w2.heap.size lz wr HF.out.rs.at_ HL1.e)
            have HV := Lib.hid (show oddV x = mkS (fixL lz) by rw [hIS, if_pos hfix])
            rw [hfix] at c5
            clear hL0 hnm hP hl1 HD4 hfix HIS hIS
            go_wp2_with fail
            refine HFX.out.mono ?_
            rintro e w5 ⟨rfl, hw5⟩
            have h5 := HF.out.wrote HOLD.out hw5
            have hld := h5.rs.load (by rw [fixL_len]; exact HL1.e)
            obtain ⟨q1, q2, q3⟩ := h5.rs.done (mkS (fixL lz))
            have Q2 := Lib.hid q2
            have Q3 := Lib.hid q3
            clear h5 hw5 q2 q3
            go_wp2
            exact bodyPost_ret (D.bodyRet_sec rfl rfl Q2.out) rfl ⟨by rw [HV.out], Q3.out⟩
          · have HV := Lib.hid (show oddV x = mkS lz by rw [hIS, if_neg hfix])
            have hfx : x.fix = false := by simpa using hfix
            rw [hfx] at c5
            have hld := HF.out.rs.load HL1.e
            obtain ⟨q1, q2, q3⟩ := HF.out.rs.done (mkS lz)
            have Q2 := Lib.hid q2
            have Q3 := Lib.hid q3
            clear hL0 hnm hP hl1 HD4 hfix hfx HIS hIS q2 q3
            go_wp2
            exact bodyPost_ret (D.bodyRet_sec rfl rfl Q2.out) rfl ⟨by rw [HV.out], Q3.out⟩
      · have t1 : decide ((k : Int) < (x.L.length : Nat)) = false := decide_eq_false (by omega)
        have HF : Hid (DS w w1.heap.size w2.heap.size w.heap.size x (chgs sq.l (x.L.take 200)) wr) := Lib.hid (by
          have := hP.out
          rwa [List.take_of_length_le (by omega), ← List.take_of_length_le (show x.L.length ≤ 200 by omega)] at this)
        have hl1 : (chgs sq.l (x.L.take 200)).length = 128 := by rw [chgs_len, sq.len]
        have HL1 : LenIs (chgs sq.l (x.L.take 200)) := ⟨hl1⟩
        have c5 := HF.out.ob.cell 5 (.bool x.fix) rfl
        have hIS := HIS.e
        generalize chgs sq.l (x.L.take 200) = lz at *
        by_cases hfix : x.fix = true
        · have HFX := Lib.hid (refFixed_any w2.heap.size lz wr HF.out.rs.at_ HL1.e)
          have HV := Lib.hid (show oddV x = mkS (fixL lz) by rw [hIS, if_pos hfix])
          rw [hfix] at c5
          clear hL0 hnm hP hl1 HD4 hfix HIS hIS
          go_wp2_with fail
          refine HFX.out.mono ?_
          rintro e w5 ⟨rfl, hw5⟩
          have h5 := HF.out.wrote HOLD.out hw5
          have hld := h5.rs.load (by rw [fixL_len]; exact HL1.e)
          obtain ⟨q1, q2, q3⟩ := h5.rs.done (mkS (fixL lz))
          have Q2 := Lib.hid q2
          have Q3 := Lib.hid q3
          clear h5 hw5 q2 q3
          go_wp2
          exact bodyPost_ret (D.bodyRet_sec rfl rfl Q2.out) rfl ⟨by rw [HV.out], Q3.out⟩
        · have HV := Lib.hid (show oddV x = mkS lz by rw [hIS, if_neg hfix])
          have hfx : x.fix = false := by simpa using hfix
          rw [hfx] at c5
          have hld := HF.out.rs.load HL1.e
          obtain ⟨q1, q2, q3⟩ := HF.out.rs.done (mkS lz)
          have Q2 := Lib.hid q2
          have Q3 := Lib.hid q3
          clear hL0 hnm hP hl1 HD4 hfix hfx HIS hIS q2 q3
          go_wp2
          exact bodyPost_ret (D.bodyRet_sec rfl rfl Q2.out) rfl ⟨by rw [HV.out], Q3.out⟩
end Go.Proofs.YtbaibmndmcdfdaaDoor.F
