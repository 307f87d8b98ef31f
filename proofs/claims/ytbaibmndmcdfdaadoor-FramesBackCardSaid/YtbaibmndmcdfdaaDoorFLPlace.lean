/- Sectors with changes in memory; the law FramesPlace. -/
import Derived.Test.YtbaibmndmcdfdaaDoorFLSeals
import Derived.Test.YtbaibmndmcdfdaaDoorFArgs
namespace Go.Proofs.YtbaibmndmcdfdaaDoor.F
open Go.RowKit
open D (Sec Kept loadS storeS allocS loadS_eq storeS_eq allocS_eq neqS neqS_eq eqlS eqlS_eq)
set_option maxRecDepth 100000
def OAt (W : World) (b : Nat) (x : Od) : Prop := W.heap[b]? = some (.cells (odA x) 34 (0, 0))
theorem OAt.lt {W : World} {b : Nat} {x : Od} (h : OAt W b x) : b < W.heap.size := (Array.getElem?_eq_some_iff.1 h).1
theorem OAt.cell {W : World} {b : Nat} {x : Od} (h : OAt W b x) (i : Nat) (v : Value) (hv : (odA x)[i]? = some v) : W.cell? ⟨b, i, none⟩ = some v := by
  unfold World.cell?
  rw [show W.heap[b]? = _ from h]; simpa using hv
theorem OAt.below {A B : World} {b n : Nat} {x : Od} (h : OAt A b x) (hb : Below n A B) (hn : b < n) : OAt B b x := (hb.block b hn).trans h
noncomputable def boxO (x : Value) : Sem Value := Instr.box 34 x
theorem boxO_eq (x : Value) : Instr.box 34 x = boxO x := rfl
theorem run_boxO (x : Od) (w : World) : ∃ w', (boxO (.agg (odA x))).run Tryd.prog w = .ok (.pointer (some ⟨w.heap.size, 0, none⟩)) w' ∧ OAt w' w.heap.size x ∧ Below w.heap.size w w' :=
  ⟨w.alloc (.cells (odA x) 34 (0, 0)), by simp [boxO, Instr.box, newVar, newRow, Value.cells], heap_alloc_new w _, (Below.refl _ _).alloc (Nat.le_refl _) _⟩
noncomputable def loadO (x : Value) : Sem Value := Instr.loadAt 34 x
theorem loadO_eq (x : Value) : Instr.loadAt 34 x = loadO x := rfl
theorem szOd : (Tryd.prog.info? 34).map (·.size) = some 6 := by kernel_rfl
theorem aggOd (w : World) : (isAgg 34).run Tryd.prog w = .ok true w := by
  unfold isAgg; rw [Sem.run_bind, run_underlying Tryd.underlying34 w]; simp
theorem run_loadO {w : World} {b : Nat} {x : Od} (h : OAt w b x) : (loadO (.pointer (some ⟨b, 0, none⟩))).run Tryd.prog w = .ok (.agg (odA x)) w :=
  D.load_at (cs := (odA x).toList) (aggOd w) szOd rfl (fun j u hj => by rw [Nat.zero_add]; exact h.cell j u (by simpa using hj))
attribute [local go_sem ↓] loadS_eq storeS_eq allocS_eq boxS_eq allocF_eq storeF_eq loadF_eq convB_eq neqS_eq eqlS_eq eqlF_eq neqF_eq boxF_eq boxO_eq loadO_eq

/-- The kind that the laws make of a number. -/
def kk (k : Int) : Int := k % 18446744073709551616 % 255
theorem kk_in (k : Int) : 0 ≤ kk k ∧ kk k ≤ 254 := by unfold kk; omega
theorem kk_seal (a : UInt8) (k : Int) (n : Nat) (hn : n ≤ 112) : sealE (a.toNat : Int) (1 + kk k) n = 0 := by
  have := kk_in k
  have ha := a.toNat_lt
  exact sealE_ok (by unfold badS; omega) (by omega)
theorem rem255 (k : Int) : (IntKind.u64.wrap k).tmod 255 = kk k := by
  have e : IntKind.u64.wrap k = k % 18446744073709551616 := by simp [IntKind.wrap, IntKind.bits, IntKind.signed]
  rw [e]
  unfold kk; rw [Int.tmod_eq_emod_of_nonneg (by omega)]
theorem wrap64_in (x : Int) (h1 : -9223372036854775808 ≤ x) (h2 : x ≤ 9223372036854775807) : wrap64 x = x := by unfold wrap64; omega

set_option maxHeartbeats 2000000 in
theorem framesPlace_any (x : Od) (o : Nat) (w : World) (hE : Env w) (hw : 1 ≤ w.heap.size) (hq : x.f.seq < 4294967296) (ho : o < 256) :
    Calls Tryd.prog 6 #[.agg (odA x), .int .u8 o] w (TrueP w) := by
  have HE := Lib.hid (fun (W : World) (h : Below w.heap.size w W) => hE.below h hw)
  have HW := Lib.hid (fun (W : World) (h : Below w.heap.size w W) => Nat.le_trans hw h.size)
  obtain ⟨w1, hbx, hO, hb1⟩ := run_boxO x w
  have HO1 := Lib.hid hO
  have HB1 := Lib.hid hb1
  have HA := Lib.hid (fun (W : World) (h : Below w.heap.size w W) => awake_any W (HE.out W h) (HW.out W h))
  have c0 := hO.cell 0 (.int .u8 x.at_.toNat) rfl
  have c1 := hO.cell 1 (.int .i64 x.f.kind) rfl
  have c2 := hO.cell 2 (.int .u32 x.f.seq) rfl
  have c3 := hO.cell 3 (.string x.f.data) rfl
  clear hE hw hO hb1
  by_cases hbig : 112 < x.f.data.size
  · have d1 : decide ((112 : Int) < x.f.data.size) = true := decide_eq_true (by omega)
    have HA1 := Lib.hid (HA.out w1 HB1.out)
    clear hbig
    go_enter Tryd.func6, Tryd.ntmps6
    go_wp2_with fail
    refine HA1.out.mono ?_
    rintro e w2 ⟨rfl, hb2⟩
    have HB2 := Lib.hid (HB1.out.trans (hb2.mono HB1.out.size))
    clear hb2
    go_wp2_with fail
    go_ret
    exact ⟨rfl, HB2.out⟩
  have d1 : decide ((112 : Int) < x.f.data.size) = false := decide_eq_false (by omega)
  have hki := kk_in x.f.kind
  have hsz : x.f.data.data.toList.length ≤ 112 := by rw [← Lib.size_eq]; omega
  have hE0 := kk_seal x.at_ x.f.kind x.f.data.data.toList.length hsz
  have hop := open_seal (x.at_.toNat : Int) ⟨1 + kk x.f.kind, x.f.seq, x.f.data⟩ (o : Int) hE0 hq (by omega)
  obtain ⟨q, hqV⟩ : ∃ q, sealV (x.at_.toNat : Int) (1 + kk x.f.kind) x.f.seq x.f.data.data.toList = q := ⟨_, rfl⟩
  have HS1 := Lib.hid (seal_as hqV hE0 w1 (HE.out _ HB1.out) (HW.out _ HB1.out) hq)
  have hop1 : openE (o : Int) q = if (x.at_.toNat : Int) = o then 0 else 72 := by rw [← hqV]; exact hop.1
  have HOP := Lib.hid hop1
  have hr := rem255 x.f.kind
  have hka := wrap64_in (kk x.f.kind) (by omega) (by omega)
  have hkb := wrap64_in (1 + kk x.f.kind) (by omega) (by omega)
  obtain ⟨k, hkk⟩ : ∃ k, kk x.f.kind = k := ⟨_, rfl⟩
  rw [hkk] at HS1 hr hka hkb hki
  obtain ⟨a, haa⟩ : ∃ a, x.at_.toNat = a := ⟨_, rfl⟩
  rw [haa] at HS1 c0
  have HOP2 : Hid (openE (o : Int) q = if a = o then 0 else 72) := Lib.hid (by
    have := HOP.out
    rw [haa] at this
    by_cases e : a = o
    · rw [if_pos (by omega)] at this; rw [if_pos e]; exact this
    · rw [if_neg (by omega)] at this; rw [if_neg e]; exact this)
  have HLT := Lib.hid (show a < 256 by rw [← haa]; exact x.at_.toNat_lt)
  have HO1' : Hid (∀ W, OAt W w.heap.size x → W.cell? ⟨w.heap.size, 0, none⟩ = some (.int .u8 (a : Nat))) := Lib.hid fun W h => by rw [← haa]; exact h.cell 0 _ rfl
  clear hbig hsz hE0 hop hqV hop1 HOP hkk haa hki
  have hwa := wrap64_in (a : Int) (by omega) (by have := HLT.out; omega)
  have hwo := wrap64_in (o : Int) (by omega) (by omega)
  go_enter Tryd.func6, Tryd.ntmps6
  go_wp2_with fail
  refine HS1.out.mono ?_
  rintro e w2 ⟨rfl, hb2⟩
  obtain ⟨w3, has, hss, hB, hb3⟩ := lay_sec w2 q
  have HB3 := Lib.hid ((HB1.out.trans (hb2.mono HB1.out.size)).trans (hb3.mono (Nat.le_trans HB1.out.size hb2.size)))
  have HO3 := Lib.hid ((HO1.out.below hb2 HO1.out.lt).below hb3 (Nat.lt_of_lt_of_le HO1.out.lt hb2.size))
  have hl := hB.load
  by_cases hao : a = o
  · subst hao
    have HOA := Lib.hid (open_as rfl (HOP2.out.trans (if_pos rfl)) w3 (HE.out _ HB3.out) (HW.out _ HB3.out))
    clear hb2 hb3 hB HS1 hbx c0 c1 c2 c3 hr hka hkb
    go_wp2_with fail
    refine HOA.out.mono ?_
    rintro e w4 ⟨rfl, hb4⟩
    obtain ⟨w5, haf, hsf, -, hb5⟩ := lay_fr w4 (openF (a : Int) q)
    have HB5 := Lib.hid ((HB3.out.trans (hb4.mono HB3.out.size)).trans (hb5.mono (Nat.le_trans HB3.out.size hb4.size)))
    have c5 := HO1'.out _ ((HO3.out.below hb4 HO3.out.lt).below hb5 (Nat.lt_of_lt_of_le HO3.out.lt hb4.size))
    have HA5 := Lib.hid (HA.out w5 HB5.out)
    clear hb4 hb5 HOA
    go_wp2_with fail
    refine HA5.out.mono ?_
    rintro e w6 ⟨rfl, hb6⟩
    have HB6 := Lib.hid (HB5.out.trans (hb6.mono HB5.out.size))
    clear hb6
    go_wp2_with fail
    go_ret
    exact ⟨rfl, HB6.out⟩
  · have HOA := Lib.hid (open_as rfl (HOP2.out.trans (if_neg hao)) w3 (HE.out _ HB3.out) (HW.out _ HB3.out))
    have hoa : ¬ o = a := fun e => hao e.symm
    have hoaz : ((o : Int) == (a : Int)) = false := by simp; omega
    clear hb2 hb3 hB HS1 hbx c0 c1 c2 c3 hr hka hkb
    go_wp2_with fail
    refine HOA.out.mono ?_
    rintro e w4 ⟨rfl, hb4⟩
    obtain ⟨w5, haf, hsf, -, hb5⟩ := lay_fr w4 (openF (o : Int) q)
    have HB5 := Lib.hid ((HB3.out.trans (hb4.mono HB3.out.size)).trans (hb5.mono (Nat.le_trans HB3.out.size hb4.size)))
    have c5 := HO1'.out _ ((HO3.out.below hb4 HO3.out.lt).below hb5 (Nat.lt_of_lt_of_le HO3.out.lt hb4.size))
    have HA5 := Lib.hid (HA.out w5 HB5.out)
    clear hb4 hb5 HOA
    go_wp2_with fail
    refine HA5.out.mono ?_
    rintro e w6 ⟨rfl, hb6⟩
    have HB6 := Lib.hid (HB5.out.trans (hb6.mono HB5.out.size))
    clear hb6
    go_wp2_with fail
    go_ret
    exact ⟨rfl, HB6.out⟩
end Go.Proofs.YtbaibmndmcdfdaaDoor.F
