/- The law SumsLinear: the walk. -/
import Derived.Test.YtadaohjphgpdnaaDoorRow
import Derived.Deep.CutRange
namespace Go.Proofs.YtadaohjphgpdnaaDoor
open Go.RowKit
attribute [local go_sem ↓] sliceX_eq

set_option maxRecDepth 100000 in
set_option maxHeartbeats 1000000 in
theorem linear_shown (va vb vc : Value) (a b c : List UInt8) (w : World) (hE : Env w) (hva : BytesAt w va a) (hvb : BytesAt w vb b) (hvc : BytesAt w vc c)
    (h : 500 < a.length ∨ a.length = 0 ∨ 500 < b.length ∨ b.length = 0 ∨ 500 < c.length ∨ c.length = 0) :
    Calls Tryd.prog 11 #[va, vb, vc] w fun e w' => e = .returned (.bool true) ∧ Below w.heap.size w w' := by
  have HS := Lib.hid (shown_any w hE)
  obtain ⟨s, d, rfl⟩ := hva.shape
  obtain ⟨s', d', rfl⟩ := hvb.shape
  obtain ⟨s2, d2, rfl⟩ := hvc.shape
  have hT : ∀ n : Nat, 500 < n → decide ((500 : Int) < n) = true := fun n h => decide_eq_true (by omega)
  have hF : ∀ n : Nat, ¬ 500 < n → decide ((500 : Int) < n) = false := fun n h => decide_eq_false (by omega)
  have zT : ∀ n : Nat, n = 0 → ((n : Int) == 0) = true := fun n h => by rw [h]; rfl
  have zF : ∀ n : Nat, ¬ n = 0 → ((n : Int) == 0) = false := fun n h => by rw [beq_eq_false_iff_ne]; omega
  have hd : decide ((500 : Int) < a.length) = true ∨ (decide ((500 : Int) < a.length) = false ∧ ((a.length : Int) == 0) = true) ∨ ((decide ((500 : Int) < a.length) = false ∧ ((a.length : Int) == 0) = false) ∧ (decide ((500 : Int) < b.length) = true ∨ (decide ((500 : Int) < b.length) = false ∧ ((b.length : Int) == 0) = true) ∨ ((decide ((500 : Int) < b.length) = false ∧ ((b.length : Int) == 0) = false) ∧ (decide ((500 : Int) < c.length) = true ∨ (decide ((500 : Int) < c.length) = false ∧ ((c.length : Int) == 0) = true))))) := by
    by_cases a1 : 500 < a.length
    · exact .inl (hT _ a1)
    by_cases a2 : a.length = 0
    · exact .inr (.inl ⟨hF _ a1, zT _ a2⟩)
    refine .inr (.inr ⟨⟨hF _ a1, zF _ a2⟩, ?_⟩)
    by_cases b1 : 500 < b.length
    · exact .inl (hT _ b1)
    by_cases b2 : b.length = 0
    · exact .inr (.inl ⟨hF _ b1, zT _ b2⟩)
    refine .inr (.inr ⟨⟨hF _ b1, zF _ b2⟩, ?_⟩)
    by_cases c1 : 500 < c.length
    · exact .inl (hT _ c1)
    · exact .inr ⟨hF _ c1, zT _ (by omega)⟩
  clear hva hvb hvc h hT hF zT zF
  rcases hd with d1 | ⟨d1, d3⟩ | ⟨⟨d1, d3⟩, d4 | ⟨d4, d5⟩ | ⟨⟨d4, d5⟩, d6 | ⟨d6, d7⟩⟩⟩
  all_goals
    go_enter Tryd.func11, Tryd.ntmps11
    go_wp2_with fail
    refine HS.out.mono ?_
    rintro e w2 ⟨rfl, hb⟩
    go_wp2_with fail
    go_ret
    exact ⟨rfl, hb⟩

attribute [local go_sem ↓] Go.wp_at_zero Go.wp_at_succ
/-- The three rows. -/
structure PR (w : World) (n p q r : Nat) (x y z : List UInt8) (W : World) : Prop where
  rx : RowAt W p x
  ry : RowAt W q y
  rz : RowAt W r z
  xy : p ≠ q
  xz : p ≠ r
  yz : q ≠ r
  xb : w.heap.size ≤ p
  yb : w.heap.size ≤ q
  zb : w.heap.size ≤ r
  lx : x.length = n
  ly : y.length = n
  lz : z.length = n
  bel : Below w.heap.size w W

theorem PR.setx {w : World} {n p q r : Nat} {x y z : List UInt8} {W : World} (h : PR w n p q r x y z W) (k : Nat) (c : UInt8) : PR w n p q r (x.set k c) y z (W.setCell ⟨p, k, none⟩ (.int .u8 c.toNat)) :=
  ⟨h.rx.set k c, h.ry.other h.xy.symm, h.rz.other h.xz.symm, h.xy, h.xz, h.yz, h.xb, h.yb, h.zb, by rw [List.length_set]; exact h.lx, h.ly, h.lz, h.bel.setCell (p := ⟨p, k, none⟩) h.xb _⟩
theorem PR.sety {w : World} {n p q r : Nat} {x y z : List UInt8} {W : World} (h : PR w n p q r x y z W) (k : Nat) (c : UInt8) : PR w n p q r x (y.set k c) z (W.setCell ⟨q, k, none⟩ (.int .u8 c.toNat)) :=
  ⟨h.rx.other h.xy, h.ry.set k c, h.rz.other h.yz.symm, h.xy, h.xz, h.yz, h.xb, h.yb, h.zb, h.lx, by rw [List.length_set]; exact h.ly, h.lz, h.bel.setCell (p := ⟨q, k, none⟩) h.yb _⟩
theorem PR.setz {w : World} {n p q r : Nat} {x y z : List UInt8} {W : World} (h : PR w n p q r x y z W) (k : Nat) (c : UInt8) : PR w n p q r x y (z.set k c) (W.setCell ⟨r, k, none⟩ (.int .u8 c.toNat)) :=
  ⟨h.rx.other h.xz, h.ry.other h.yz, h.rz.set k c, h.xy, h.xz, h.yz, h.xb, h.yb, h.zb, h.lx, h.ly, by rw [List.length_set]; exact h.lz, h.bel.setCell (p := ⟨r, k, none⟩) h.zb _⟩
theorem PR.drew {w : World} {n p q r : Nat} {x y z : List UInt8} {W : World} (h : PR w n p q r x y z W) : PR w n p q r x y z W.drew :=
  ⟨h.rx.heap' rfl, h.ry.heap' rfl, h.rz.heap' rfl, h.xy, h.xz, h.yz, h.xb, h.yb, h.zb, h.lx, h.ly, h.lz, h.bel.drew⟩
theorem tmodN (j m : Nat) : (j : Int).tmod m = ((j % m : Nat) : Int) := by rw [Int.tmod_eq_emod_of_nonneg (Int.natCast_nonneg _)]; rfl

theorem three_rows (w W : World) (n : Nat) (Z : Array Value) (hZ : Z = (Lib.byteCells (List.replicate n 0)).toArray) (hh : W.heap = (((w.alloc (.cells Z 5)).alloc (.cells Z 5)).alloc (.cells Z 5)).heap) (ho : W.os = w.os) (ht : W.tape = w.tape) (hu : W.output = w.output)
    (p q r : Nat) (hp : p = w.heap.size ∨ p = w.heap.size + 1 ∨ p = w.heap.size + 2) (hq : q = w.heap.size ∨ q = w.heap.size + 1 ∨ q = w.heap.size + 2) (hr : r = w.heap.size ∨ r = w.heap.size + 1 ∨ r = w.heap.size + 2) (h1 : p ≠ q) (h2 : p ≠ r) (h3 : q ≠ r) :
    PR w n p q r (List.replicate n 0) (List.replicate n 0) (List.replicate n 0) W := by
  have r0 : RowAt W w.heap.size (List.replicate n 0) := (((RowAt.new w _ Z hZ).alloc _).alloc _).heap' hh
  have r1 : RowAt W (w.heap.size + 1) (List.replicate n 0) := by
    have := ((RowAt.new (w.alloc (.cells Z 5)) _ Z hZ).alloc (.cells Z 5)).heap' hh
    rwa [World.size_alloc] at this
  have r2 : RowAt W (w.heap.size + 2) (List.replicate n 0) := by
    have := (RowAt.new ((w.alloc (.cells Z 5)).alloc (.cells Z 5)) _ Z hZ).heap' hh
    rwa [World.size_alloc, World.size_alloc] at this
  have hall : ∀ g, g = w.heap.size ∨ g = w.heap.size + 1 ∨ g = w.heap.size + 2 → RowAt W g (List.replicate n 0) := by
    rintro g (rfl | rfl | rfl)
    · exact r0
    · exact r1
    · exact r2
  have hb := (((Below.refl w.heap.size w).alloc (Nat.le_refl _) (.cells Z 5)).alloc (by simp) (.cells Z 5)).alloc (by simp; omega) (.cells Z 5)
  exact ⟨hall p hp, hall q hq, hall r hr, h1, h2, h3, by omega, by omega, by omega, List.length_replicate, List.length_replicate, List.length_replicate,
    ⟨ho, ht, hu, by rw [hh]; exact hb.size, fun k hk => by rw [hh]; exact hb.block k hk⟩⟩

set_option maxRecDepth 100000 in
set_option maxHeartbeats 20000000 in
theorem linear_main (ga ia da gb ib db gc ic dc : Nat) (a b c : List UInt8) (w : World) (hE : Env w) (hva : BytesAt w (.slice (some ⟨ga, ia, none⟩) a.length da) a) (hvb : BytesAt w (.slice (some ⟨gb, ib, none⟩) b.length db) b) (hvc : BytesAt w (.slice (some ⟨gc, ic, none⟩) c.length dc) c)
    (hca : a.length ≤ da) (a1 : a.length ≤ 500) (a0 : a.length ≠ 0) (b1 : b.length ≤ 500) (b0 : b.length ≠ 0) (c1 : c.length ≤ 500) (c0 : c.length ≠ 0) :
    Calls Tryd.prog 11 #[.slice (some ⟨ga, ia, none⟩) a.length da, .slice (some ⟨gb, ib, none⟩) b.length db, .slice (some ⟨gc, ic, none⟩) c.length dc] w fun e w' => e = .returned (.bool true) ∧ Below w.heap.size w w' := by
  have d1 : decide ((500 : Int) < a.length) = false := decide_eq_false (by omega)
  have d2 : ((a.length : Int) == 0) = false := by rw [beq_eq_false_iff_ne]; omega
  have d3 : decide ((500 : Int) < b.length) = false := decide_eq_false (by omega)
  have d4 : ((b.length : Int) == 0) = false := by rw [beq_eq_false_iff_ne]; omega
  have d5 : decide ((500 : Int) < c.length) = false := decide_eq_false (by omega)
  have d6 : ((c.length : Int) == 0) = false := by rw [beq_eq_false_iff_ne]; omega
  obtain ⟨Z, hZ, hmk⟩ := make_zeros a.length (by omega)
  have h1 := hE.one
  have HE := Lib.hid hE
  have HVA := Lib.hid hva
  have HVB := Lib.hid hvb
  have HVC := Lib.hid hvc
  have HZ := Lib.hid hZ
  clear hva hvb hvc hE hZ
  go_enter Tryd.func11, Tryd.ntmps11
  go_wp2_with fail
  go_cut [8, 9, 10] from 48 to 53 (fun x y z wx => ∃ p q r : Nat, x = .slice (some ⟨p, 0, none⟩) a.length a.length ∧ y = .slice (some ⟨q, 0, none⟩) a.length a.length ∧ z = .slice (some ⟨r, 0, none⟩) a.length a.length ∧ Hid (PR w a.length p q r (List.replicate a.length 0) (List.replicate a.length 0) (List.replicate a.length 0) wx))
  case first =>
    go_region
    all_goals go_wp2_with fail
    all_goals go_meet
    all_goals (refine ⟨_, _, _, rfl, rfl, rfl, Lib.hid (three_rows w _ a.length Z HZ.out rfl rfl rfl rfl _ _ _ ?_ ?_ ?_ ?_ ?_ ?_).drew⟩ <;> omega)
  case rest =>
    obtain ⟨p, q, r, rfl, rfl, rfl, hR⟩ := hcut
    clear hmk HZ
    go_wp2_with fail
    go_loopw [11] (fun i wr => ∃ j : Nat, j ≤ a.length ∧ i = .int .i64 j ∧ Hid (PR w a.length p q r (rowF (atF b) a.length j) (rowF (atF c) a.length j) (rowF (threeF a b c) a.length j) wr)) (fun i _ => a.length - (intOf i).toNat)
    case atStart => exact ⟨0, by omega, rfl, by rw [rowF_zero, rowF_zero, rowF_zero]; exact hR⟩
    case round =>
      obtain ⟨j, hj, rfl, hP⟩ := hrel
      clear hR
      by_cases hlt : j < a.length
      · have hjb : j % b.length < b.length := Nat.mod_lt _ (by omega)
        have hjc : j % c.length < c.length := Nat.mod_lt _ (by omega)
        have hPb := hP.out.bel
        rcases HVA.out.below hPb (Nat.le_refl _) with ⟨_, _, hvq, hl0⟩ | ⟨g1, i1, e1, hvq, hga, hcsa⟩
        · subst hl0; simp at a0
        cases hvq
        rcases HVB.out.below hPb (Nat.le_refl _) with ⟨_, _, hvq, hl0⟩ | ⟨g1, i1, e1, hvq, hgb, hcsb⟩
        · subst hl0; simp at b0
        cases hvq
        rcases HVC.out.below hPb (Nat.le_refl _) with ⟨_, _, hvq, hl0⟩ | ⟨g1, i1, e1, hvq, hgc, hcsc⟩
        · subst hl0; simp at c0
        cases hvq
        have hb := hcsb _ hjb
        have hc := hcsc _ hjc
        rw [atF_nat b j hjb] at hb
        rw [atF_nat c j hjc] at hc
        have HA := Lib.hid (hcsa j hlt)
        clear hcsa hcsb hcsc hPb
        have m1 : (j : Int).tmod b.length = ((j % b.length : Nat) : Int) := tmodN _ _
        have m2 : (j : Int).tmod c.length = ((j % c.length : Nat) : Int) := tmodN _ _
        have m3 : (j : Int) % b.length = ((j % b.length : Nat) : Int) := rfl
        have m4 : (j : Int) % c.length = ((j % c.length : Nat) : Int) := rfl
        generalize j % b.length = jb at *
        generalize j % c.length = jc at *
        go_wp2_with fail
        obtain ⟨vx, kx⟩ : ∃ v, wr.cell? ⟨p, j, none⟩ = some v := ⟨_, hP.out.rx.cell j (by rw [rowF_len]; exact hlt)⟩
        have fx := hP.out.rx.frozen j
        have hP3 := hP.out.setx j (atF b j)
        rw [rowF_set] at hP3
        obtain ⟨vy, ky⟩ : ∃ v, (wr.setCell ⟨p, j, none⟩ (.int .u8 (atF b j).toNat)).cell? ⟨q, j, none⟩ = some v := ⟨_, hP3.ry.cell j (by rw [rowF_len]; exact hlt)⟩
        have fy := hP3.ry.frozen j
        have HP4 := Lib.hid (hP3.sety j (atF c j))
        rw [rowF_set] at HP4
        have hgb0 : gb < w.heap.size := by
          rcases HVB.out.lt _ _ _ _ rfl with h | h
          · exact h
          · rw [h] at b0; simp at b0
        have hgc0 : gc < w.heap.size := by
          rcases HVC.out.lt _ _ _ _ rfl with h | h
          · exact h
          · rw [h] at c0; simp at c0
        have hpb := hP.out.xb
        have HS0 := Lib.hid (And.intro hb hc)
        have HSD := Lib.hid (fun W (h : World.cell? W ⟨gb, ib + jb, none⟩ = some (.int .u8 (atF b j).toNat) ∧ World.cell? W ⟨gc, ic + jc, none⟩ = some (.int .u8 (atF c j).toNat)) => show World.cell? W.drew ⟨gb, ib + jb, none⟩ = some (.int .u8 (atF b j).toNat) ∧ World.cell? W.drew ⟨gc, ic + jc, none⟩ = some (.int .u8 (atF c j).toNat) from h)
        have HSS := Lib.hid (fun W v (h : World.cell? W ⟨gb, ib + jb, none⟩ = some (.int .u8 (atF b j).toNat) ∧ World.cell? W ⟨gc, ic + jc, none⟩ = some (.int .u8 (atF c j).toNat)) => show (W.setCell ⟨p, j, none⟩ v).cell? ⟨gb, ib + jb, none⟩ = some (.int .u8 (atF b j).toNat) ∧ (W.setCell ⟨p, j, none⟩ v).cell? ⟨gc, ic + jc, none⟩ = some (.int .u8 (atF c j).toNat) from
          ⟨(World.cell?_of_block (w := W) (a := ⟨gb, ib + jb, none⟩) ((Put.one p j v W).other gb (by omega))).trans h.1, (World.cell?_of_block (w := W) (a := ⟨gc, ic + jc, none⟩) ((Put.one p j v W).other gc (by omega))).trans h.2⟩)
        have hqb := hP.out.yb
        have HST := Lib.hid (fun W v (h : World.cell? W ⟨gb, ib + jb, none⟩ = some (.int .u8 (atF b j).toNat) ∧ World.cell? W ⟨gc, ic + jc, none⟩ = some (.int .u8 (atF c j).toNat)) => show (W.setCell ⟨q, j, none⟩ v).cell? ⟨gb, ib + jb, none⟩ = some (.int .u8 (atF b j).toNat) ∧ (W.setCell ⟨q, j, none⟩ v).cell? ⟨gc, ic + jc, none⟩ = some (.int .u8 (atF c j).toNat) from
          ⟨(World.cell?_of_block (w := W) (a := ⟨gb, ib + jb, none⟩) ((Put.one q j v W).other gb (by omega))).trans h.1, (World.cell?_of_block (w := W) (a := ⟨gc, ic + jc, none⟩) ((Put.one q j v W).other gc (by omega))).trans h.2⟩)
        have i1 : (0 : Int) ≤ (j : Int) := by omega
        have i2 : (j : Int) < (a.length : Int) := by omega
        have i3 : (0 : Int) ≤ (jb : Int) := by omega
        have i4 : (jb : Int) < (b.length : Int) := by omega
        have i5 : (0 : Int) ≤ (jc : Int) := by omega
        have i6 : (jc : Int) < (c.length : Int) := by omega
        clear hP3 hb hc
        go_region_held3 (fun W' => W'.cell? ⟨gb, ib + jb, none⟩ = some (.int .u8 (atF b j).toNat) ∧ W'.cell? ⟨gc, ic + jc, none⟩ = some (.int .u8 (atF c j).toNat)) (first | assumption | exact HS0.out | exact HSD.out _ (by assumption) | exact HSS.out _ _ (by assumption) | exact HSD.out _ (HSS.out _ _ (by assumption)) | exact HSD.out _ (HSS.out _ _ HS0.out) | exact HST.out _ _ (by assumption) | exact HSD.out _ (HST.out _ _ (by assumption)) | exact HSD.out _ (HST.out _ _ (HSS.out _ _ HS0.out))) (fail)
        go_wp2_with fail
        clear kx fx ky fy HS0 HSD HSS HST
        obtain ⟨W4, hW4⟩ : ∃ W4, ((wr.setCell ⟨p, j, none⟩ (.int .u8 (atF b j).toNat)).setCell ⟨q, j, none⟩ (.int .u8 (atF c j).toNat)).drew = W4 := ⟨_, rfl⟩
        have HP4 := Lib.hid HP4.out.drew
        rw [hW4] at HP4 ⊢
        clear hW4
        rcases HVA.out.below HP4.out.bel (Nat.le_refl _) with ⟨_, _, hvq, hl0⟩ | ⟨g1, i1, e1, hvq, hga, hcsa⟩
        · subst hl0; simp at a0
        cases hvq
        have ka := hcsa j hlt
        have kx : W4.cell? ⟨p, j, none⟩ = some (.int .u8 (atF b j).toNat) := by
          rw [HP4.out.rx.cell j (by rw [rowF_len]; exact hlt), rowF_get _ _ _ _ (by omega)]
        have ky : W4.cell? ⟨q, j, none⟩ = some (.int .u8 (atF c j).toNat) := by
          rw [HP4.out.ry.cell j (by rw [rowF_len]; exact hlt), rowF_get _ _ _ _ (by omega)]
        have l1 := byte_lt a j hlt
        have l2 := (atF b j).toNat_lt
        have l3 := (atF c j).toNat_lt
        have x1 : bits .xor .u8 (a[j].toNat : Int) ((atF b j).toNat : Int) = ((a[j].toNat ^^^ (atF b j).toNat : Nat) : Int) := xor8 _ _ l1 (by omega)
        have x2 : bits .xor .u8 ((a[j].toNat ^^^ (atF b j).toNat : Nat) : Int) ((atF c j).toNat : Int) = ((threeF a b c j).toNat : Int) := by
          rw [xor8 _ _ (byte_xor_lt l1 (by omega)) (by omega), threeF_nat a b c j hlt]
        clear hcsa hga l1 l2 l3
        generalize a[j].toNat ^^^ (atF b j).toNat = ab at *
        generalize a[j].toNat = aj at *
        go_still_tail 16, (by kernel_rfl)
        change wpList _ _ _ _ _ W4.drew
        obtain ⟨w5, hw5⟩ : ∃ w5, W4.drew = w5 := ⟨_, rfl⟩
        have hP5 := HP4.out.drew
        rw [hw5] at hP5 ⊢
        clear hw5 HP4 ka kx ky x1 x2
        obtain ⟨vz, kz⟩ : ∃ v, w5.cell? ⟨r, j, none⟩ = some v := ⟨_, hP5.rz.cell j (by rw [rowF_len]; exact hlt)⟩
        have fz := hP5.rz.frozen j
        have HP6 := Lib.hid (hP5.setz j (threeF a b c j))
        rw [rowF_set] at HP6
        clear hP5
        go_wp2_with fail
        go_roundw
        case rel => exact ⟨j + 1, by omega, by go_num, HP6⟩
        case measure => simp [intOf]; omega
      · obtain rfl : j = a.length := by omega
        have HB0 := Lib.hid hP.out.bel
        have hs0 := hP.out.bel.size
        have bz := hP.out.rz.at_ a.length a.length hP.out.lz
        have bx := hP.out.rx.at_ a.length a.length hP.out.lx
        have by_ := hP.out.ry.at_ a.length a.length hP.out.ly
        have hma : a.length ≤ maxLen := by unfold maxLen; omega
        have HCZ := Lib.hid (fun W (hb : Below wr.heap.size wr W) => crcAll_any _ _ W (HE.out.below (hP.out.bel.trans (hb.mono hs0)) h1) (bz.below hb (Nat.le_refl _)) (by rw [hP.out.lz]; exact hma))
        have HCX := Lib.hid (fun W (hb : Below wr.heap.size wr W) => crcAll_any _ _ W (HE.out.below (hP.out.bel.trans (hb.mono hs0)) h1) (bx.below hb (Nat.le_refl _)) (by rw [hP.out.lx]; exact hma))
        have HCY := Lib.hid (fun W (hb : Below wr.heap.size wr W) => crcAll_any _ _ W (HE.out.below (hP.out.bel.trans (hb.mono hs0)) h1) (by_.below hb (Nat.le_refl _)) (by rw [hP.out.ly]; exact hma))
        have HCA := Lib.hid (fun W (hb : Below wr.heap.size wr W) => crcAll_any _ _ W (HE.out.below (hP.out.bel.trans (hb.mono hs0)) h1) (HVA.out.below (hP.out.bel.trans (hb.mono hs0)) (Nat.le_refl _)) hma)
        have q1 : bits .xor .u32 (crcV a : Int) (crcV (rowF (atF b) a.length a.length) : Int) = ((crcV a ^^^ crcV (rowF (atF b) a.length a.length) : Nat) : Int) := xor32 _ _ (crcV_lt _) (crcV_lt _)
        have q2 : bits .xor .u32 ((crcV a ^^^ crcV (rowF (atF b) a.length a.length) : Nat) : Int) (crcV (rowF (atF c) a.length a.length) : Int) = (crcV (rowF (threeF a b c) a.length a.length) : Nat) := by
          rw [xor32 _ _ (xor_lt (crcV_lt _) (crcV_lt _)) (crcV_lt _), linear_crc]
        generalize crcV a ^^^ crcV (rowF (atF b) a.length a.length) = cax at *
        generalize crcV (rowF (threeF a b c) a.length a.length) = cz at *
        generalize crcV (rowF (atF b) a.length a.length) = cx at *
        generalize crcV (rowF (atF c) a.length a.length) = cy at *
        generalize crcV a = ca at *
        have q3 : ((cz : Int) != cz) = false := by simp
        clear bz bx by_ hP hma
        go_wp2_with fail
        refine (HCZ.out wr (Below.refl _ _)).mono ?_
        rintro e w2 ⟨rfl, hb2⟩
        have HB2 := Lib.hid hb2
        clear hb2 HCZ
        go_wp2_with fail
        refine (HCA.out w2 HB2.out).mono ?_
        rintro e w3 ⟨rfl, hb3⟩
        have HB3 := Lib.hid (HB2.out.trans (hb3.mono HB2.out.size))
        clear hb3 HCA HB2
        go_wp2_with fail
        refine (HCX.out w3 HB3.out).mono ?_
        rintro e w4 ⟨rfl, hb4⟩
        have HB4 := Lib.hid (HB3.out.trans (hb4.mono HB3.out.size))
        clear hb4 HCX HB3
        go_wp2_with fail
        refine (HCY.out w4 HB4.out).mono ?_
        rintro e w5 ⟨rfl, hb5⟩
        have HB5 := Lib.hid (HB0.out.trans ((HB4.out.trans (hb5.mono HB4.out.size)).mono hs0))
        clear hb5 HCY HB4
        have HB5e := Lib.hid ((Below.refl w5.heap.size w5).alloc (Nat.le_refl _) (.cells #[] 5 (0, 0)))
        have HO5 := Lib.hid (made0 w5 w5.heap.size (Nat.le_refl _))
        have HVA5 := Lib.hid ((HVA.out.below HB5.out (Nat.le_refl _)).below HB5e.out (Nat.le_refl _))
        have ha0l : 0 < a.length := by omega
        have hb0l : 0 < b.length := by omega
        have hc0l : 0 < c.length := by omega
        have hbm : (b[0]'hb0l).toNat % a.length < a.length := Nat.mod_lt _ (by omega)
        have m1 : ((b[0]'hb0l).toNat : Int).tmod a.length = (((b[0]'hb0l).toNat % a.length : Nat) : Int) := tmodN _ _
        have m3 : ((b[0]'hb0l).toNat : Int) % a.length = (((b[0]'hb0l).toNat % a.length : Nat) : Int) := rfl
        have HCB := Lib.hid (fun W (h : Below w.heap.size w W) => show W.cell? ⟨gb, ib, none⟩ = some (.int .u8 (b[0]'hb0l).toNat) by
          rcases HVB.out.below h (Nat.le_refl _) with ⟨_, _, hvq, hl0⟩ | ⟨g1, i1, e1, hvq, _, hcs⟩
          · rw [hl0] at b0; simp at b0
          · cases hvq; exact hcs 0 hb0l)
        have HCC := Lib.hid (fun W (h : Below w.heap.size w W) => show W.cell? ⟨gc, ic, none⟩ = some (.int .u8 (c[0]'hc0l).toNat) by
          rcases HVC.out.below h (Nat.le_refl _) with ⟨_, _, hvq, hl0⟩ | ⟨g1, i1, e1, hvq, _, hcs⟩
          · rw [hl0] at c0; simp at c0
          · cases hvq; exact hcs 0 hc0l)
        have HCA0 := Lib.hid (fun W (h : Below w.heap.size w W) => show W.cell? ⟨ga, ia, none⟩ = some (.int .u8 (a[0]'ha0l).toNat) by
          rcases HVA.out.below h (Nat.le_refl _) with ⟨_, _, hvq, hl0⟩ | ⟨g1, i1, e1, hvq, _, hcs⟩
          · rw [hl0] at a0; simp at a0
          · cases hvq; exact hcs 0 ha0l)
        have HCAK := Lib.hid (fun W (h : Below w.heap.size w W) (k : Nat) (hk : k < a.length) => show W.cell? ⟨ga, ia + k, none⟩ = some (.int .u8 a[k].toNat) by
          rcases HVA.out.below h (Nat.le_refl _) with ⟨_, _, hvq, hl0⟩ | ⟨g1, i1, e1, hvq, _, hcs⟩
          · rw [hl0] at a0; simp at a0
          · cases hvq; exact hcs k hk)
        generalize hk0 : (b[0]'hb0l).toNat % a.length = k at *
        clear hk0
        have bbl : (b[0]'hb0l).toNat < 256 := byte_lt b 0 hb0l
        generalize hbb0 : (b[0]'hb0l).toNat = bb at *
        clear hbb0
        obtain ⟨cc, hcc⟩ : ∃ cc : UInt8, c[0]'hc0l = cc := ⟨_, rfl⟩
        obtain ⟨aa, haa⟩ : ∃ aa : UInt8, a[0]'ha0l = aa := ⟨_, rfl⟩
        rw [hcc] at HCC
        rw [haa] at HCA0
        have HAA := Lib.hid haa
        have HRR := Lib.hid (show rollV (mixV a) a.length aa.toNat cc.toNat = mixV (a.drop 1 ++ [cc]) ∧ rollE (mixV a) a.length = 0 by
          cases a with
          | nil => simp at a0
          | cons x t =>
            have hx : x = aa := haa
            subst hx
            exact ⟨roll_next x t cc (by simp at a1; omega), roll_nextE x t (by simp at a1; omega)⟩)
        clear hcc haa
        go_wp2_with (at_builtin; refine wpList_append_bytes (by rfl) _ _ (by rfl) w5.heap.size (.slice (some ⟨w5.heap.size, 0, none⟩) 0 0) (.slice (some ⟨ga, ia, none⟩) a.length da) 0 [] a (by rfl) (by rfl) HO5.out ⟨_, _, rfl⟩ HVA5.out (by omega) (by simp) ?_; intro g cap w6 hown hgr; rw [Nat.zero_add, List.nil_append] at hown; rw [Nat.zero_add]; have HB6 := Lib.hid (HB5.out.trans ((HB5e.out.grown hgr (by simp) (fun k e => (HO5.out.lt k e).1)).mono HB5.out.size)); have HOW := Lib.hid (show OwnBytes w6 w5.heap.size g cap a from hown); have y1 := HCB.out w6 HB6.out; have y2 := HCC.out w6 HB6.out; obtain ⟨vo, y3⟩ : ∃ v, w6.cell? ⟨g, k, none⟩ = some v := ⟨_, HOW.out.cell k hbm⟩; have y4 := HOW.out.frozen k; clear hgr hown)
        have hge := HOW.out.ge
        have hs5 := HB5.out.size
        have HOW7 := Lib.hid (HOW.out.set k cc)
        have HB7 := Lib.hid (HB6.out.setCell (p := ⟨g, k, none⟩) (by show w.heap.size ≤ g; omega) (.int .u8 cc.toNat))
        obtain ⟨w7, hw7⟩ : ∃ w7, w6.setCell ⟨g, k, none⟩ (.int .u8 cc.toNat) = w7 := ⟨_, rfl⟩
        rw [hw7] at HOW7 HB7 ⊢
        clear hw7 y1 y2 y3 y4 HOW HB6 hge HO5 HVA5 HB5e HB5 HB0 hs0 hs5 HCB m1 m3 q1 q2 q3 bbl
        have hla := aa.toNat_lt
        have hlc := cc.toNat_lt
        have HRO := Lib.hid (fun W => roll_any (mixV a) aa.toNat cc.toNat a.length W (mixV_lt a) (by omega) (by omega))
        rw [HRR.out.1, HRR.out.2] at HRO
        clear hla hlc HRR
        have HK := Lib.hid (fun (W' : World) (h : Below w7.heap.size w7 W') => show (W'.cell? ⟨ga, ia, none⟩ = some (.int .u8 aa.toNat) ∧ W'.cell? ⟨gc, ic, none⟩ = some (.int .u8 cc.toNat) ∧ Below w7.heap.size w7 W') from ⟨HCA0.out W' (HB7.out.trans (h.mono HB7.out.size)), HCC.out W' (HB7.out.trans (h.mono HB7.out.size)), h⟩)
        have HS0 := Lib.hid (HK.out w7 (Below.refl _ _))
        have HSD : Hid (∀ W' : World, (W'.cell? ⟨ga, ia, none⟩ = some (.int .u8 aa.toNat) ∧ W'.cell? ⟨gc, ic, none⟩ = some (.int .u8 cc.toNat) ∧ Below w7.heap.size w7 W') → (W'.drew.cell? ⟨ga, ia, none⟩ = some (.int .u8 aa.toNat) ∧ W'.drew.cell? ⟨gc, ic, none⟩ = some (.int .u8 cc.toNat) ∧ Below w7.heap.size w7 W'.drew)) := Lib.hid (fun W' h => HK.out _ h.2.2.drew)
        have HSC : Hid (∀ W' W1 : World, (W'.cell? ⟨ga, ia, none⟩ = some (.int .u8 aa.toNat) ∧ W'.cell? ⟨gc, ic, none⟩ = some (.int .u8 cc.toNat) ∧ Below w7.heap.size w7 W') → Below W'.heap.size W' W1 → (W1.cell? ⟨ga, ia, none⟩ = some (.int .u8 aa.toNat) ∧ W1.cell? ⟨gc, ic, none⟩ = some (.int .u8 cc.toNat) ∧ Below w7.heap.size w7 W1)) := Lib.hid (fun W' W1 h hb => HK.out _ (h.2.2.trans (hb.mono h.2.2.size)))
        have HMS := Lib.hid (fun (W' : World) (h : (W'.cell? ⟨ga, ia, none⟩ = some (.int .u8 aa.toNat) ∧ W'.cell? ⟨gc, ic, none⟩ = some (.int .u8 cc.toNat) ∧ Below w7.heap.size w7 W')) => mixAll_any _ a W' (HVA.out.below (HB7.out.trans (h.2.2.mono HB7.out.size)) (Nat.le_refl _)) (by unfold maxLen; omega))
        obtain ⟨mn, hmn⟩ : ∃ mn, mixV (a.drop 1 ++ [cc]) = mn := ⟨_, rfl⟩
        obtain ⟨ma, hma⟩ : ∃ ma, mixV a = ma := ⟨_, rfl⟩
        rw [hmn, hma] at HRO
        rw [hma] at HMS
        have HMN := Kp.mk hmn
        have HMA := Kp.mk hma
        clear hmn hma
        go_region_held3 (fun W' => W'.cell? ⟨ga, ia, none⟩ = some (.int .u8 aa.toNat) ∧ W'.cell? ⟨gc, ic, none⟩ = some (.int .u8 cc.toNat) ∧ Below w7.heap.size w7 W') (first | assumption | exact HS0.out | exact HSD.out _ (by assumption))
          ((first
            | (go_at_call 31; (with_reducible refine (HMS.out _ ?hs).mono ?_); (case hs => assumption); rintro e wz ⟨rfl, hbz⟩; have hSz := HSC.out _ _ (by assumption) hbz)
            | (go_at_call 29; (with_reducible refine (HRO.out _).mono ?_); rintro e wz ⟨rfl, hbz⟩; have hSz := HSC.out _ _ (by assumption) hbz)))
        have hB8 := hSz.2.2
        have HOW8 := Lib.hid (HOW7.out.below hB8)
        have HB8 := Lib.hid (HB7.out.trans (hB8.mono HB7.out.size))
        clear hB8 hSz HK HS0 HSD HSC HMS HRO hbz
        obtain ⟨A, hsl, hA⟩ := sliceX_from ga ia da 1 a wz (HVA.out.below HB8.out (Nat.le_refl _)) hca (by omega) 1 rfl
        obtain ⟨t, htd⟩ : ∃ t, a.drop 1 = t := ⟨_, rfl⟩
        rw [htd] at hA HMN
        have htl : t.length ≤ 500 := by rw [← htd, List.length_drop]; omega
        clear htd
        have HK8 := Lib.hid (fun (W' : World) (h : Below wz.heap.size wz W') => show (W'.cell? ⟨gc, ic, none⟩ = some (.int .u8 cc.toNat) ∧ Below wz.heap.size wz W') from ⟨HCC.out W' (HB8.out.trans (h.mono HB8.out.size)), h⟩)
        have HS0 := Lib.hid (HK8.out wz (Below.refl _ _))
        have HSD : Hid (∀ W' : World, (W'.cell? ⟨gc, ic, none⟩ = some (.int .u8 cc.toNat) ∧ Below wz.heap.size wz W') → (W'.drew.cell? ⟨gc, ic, none⟩ = some (.int .u8 cc.toNat) ∧ Below wz.heap.size wz W'.drew)) := Lib.hid (fun W' h => HK8.out _ h.2.drew)
        have HSA : Hid (∀ (W' : World) (ob : Obj), (W'.cell? ⟨gc, ic, none⟩ = some (.int .u8 cc.toNat) ∧ Below wz.heap.size wz W') → ((W'.alloc ob).cell? ⟨gc, ic, none⟩ = some (.int .u8 cc.toNat) ∧ Below wz.heap.size wz (W'.alloc ob))) := Lib.hid (fun W' ob h => HK8.out _ (h.2.alloc h.2.size ob))
        have HAD := Lib.hid (fun (W' : World) (h : (W'.cell? ⟨gc, ic, none⟩ = some (.int .u8 cc.toNat) ∧ Below wz.heap.size wz W')) => hA.below h.2 (Nat.le_refl _))
        have HE1 := Lib.hid (show OwnBytes (wz.alloc (.cells #[] 5)) wz.heap.size wz.heap.size 0 [] from made0 wz wz.heap.size (Nat.le_refl _))
        have HE2 := Lib.hid (OwnBytes.below HE1.out ((Below.refl _ _).alloc (Nat.le_refl _) (.cells #[.int .u8 cc.toNat] 5)))
        have HE3 := Lib.hid (show OwnBytes ((wz.alloc (.cells #[.int .u8 cc.toNat] 5)).alloc (.cells #[] 5)) wz.heap.size (wz.heap.size + 1) 0 [] by
          have := made0 (wz.alloc (.cells #[.int .u8 cc.toNat] 5)) wz.heap.size (by simp)
          rw [World.size_alloc] at this
          exact this)
        have HC1 := Lib.hid (fun W => bytes_new W [cc] #[.int .u8 cc.toNat] 5 (0, 0) rfl 1 rfl)
        have HR2 := Lib.hid (show RowAt ((wz.alloc (.cells #[] 5)).alloc (.cells #[.int .u8 cc.toNat] 5)) (wz.heap.size + 1) [cc] by
          have := RowAt.new (wz.alloc (.cells #[] 5)) [cc] #[.int .u8 cc.toNat] rfl
          rwa [World.size_alloc] at this)
        have HR3 := Lib.hid (show RowAt ((wz.alloc (.cells #[.int .u8 cc.toNat] 5)).alloc (.cells #[] 5)) wz.heap.size [cc] from (RowAt.new wz [cc] #[.int .u8 cc.toNat] rfl).alloc _)
        clear hA
        go_wp2_with fail
        go_region_held3 (fun W' => W'.cell? ⟨gc, ic, none⟩ = some (.int .u8 cc.toNat) ∧ Below wz.heap.size wz W') (first | assumption | exact HS0.out | exact HSD.out _ (by assumption) | exact HSA.out _ _ (by assumption) | exact HSD.out _ (HSA.out _ _ (by assumption)))
          ((first
            | (refine step_append_own (by rfl) _ _ (by rfl) wz wz.heap.size 0 0 t.length [] t (.slice A (a.length - 1) (da - 1)) (by rfl) (by rfl) rfl (Nat.zero_add _) ?ho ?hx ?hl ?hb ?_; (case ho => first | exact HE1.out | exact HE2.out | exact HE3.out | exact OwnBytes.drew HE1.out | exact OwnBytes.drew HE2.out | exact OwnBytes.drew HE3.out); (case hx => exact HAD.out _ (by assumption)); (case hl => omega); (case hb => exact And.right (by assumption)); intro g3 cap3 w9 hown hgr hb9; have hS9 := HK8.out w9 hb9)
            | (refine step_append_own (by rfl) _ _ (by rfl) wz (wz.heap.size + 1) 0 0 t.length [] t (.slice A (a.length - 1) (da - 1)) (by rfl) (by rfl) rfl (Nat.zero_add _) ?ho ?hx ?hl ?hb ?_; (case ho => first | exact HE1.out | exact HE2.out | exact HE3.out | exact OwnBytes.drew HE1.out | exact OwnBytes.drew HE2.out | exact OwnBytes.drew HE3.out); (case hx => exact HAD.out _ (by assumption)); (case hl => omega); (case hb => exact And.right (by assumption)); intro g3 cap3 w9 hown hgr hb9; have hS9 := HK8.out w9 hb9)
            | (refine step_append_own (by rfl) _ _ (by rfl) wz g3 cap3 t.length (t.length + 1) ([] ++ t) [cc] (.slice (some ⟨w9.heap.size, 0, none⟩) 1 1) (by rfl) (by rfl) (by rfl) (by rfl) ?ho ?hx ?hl ?hb ?_; (case ho => first | exact hown | exact OwnBytes.drew hown | exact OwnBytes.below hown ((Below.refl _ _).alloc (Nat.le_refl _) _) | exact OwnBytes.drew (OwnBytes.below hown ((Below.refl _ _).alloc (Nat.le_refl _) _))); (case hx => exact (HC1.out w9).heap' rfl); (case hl => omega); (case hb => exact And.right (by assumption)); intro g4 cap4 w10 hown4 hgr4 hb10; have hS10 := HK8.out w10 hb10)
            | (refine step_append_own (by rfl) _ _ (by rfl) wz g3 cap3 t.length (t.length + 1) ([] ++ t) [cc] (.slice (some ⟨wz.heap.size + 1, 0, none⟩) 1 1) (by rfl) (by rfl) (by rfl) (by rfl) ?ho ?hx ?hl ?hb ?_; (case ho => first | exact hown | exact OwnBytes.drew hown | exact OwnBytes.below hown ((Below.refl _ _).alloc (Nat.le_refl _) _) | exact OwnBytes.drew (OwnBytes.below hown ((Below.refl _ _).alloc (Nat.le_refl _) _))); (case hx => (refine ((RowAt.grown ?r1 hgr ?r2).at_ 1 1 rfl).heap' rfl; (case r2 => simp); (case r1 => exact HR2.out.heap' rfl))); (case hl => omega); (case hb => exact And.right (by assumption)); intro g4 cap4 w10 hown4 hgr4 hb10; have hS10 := HK8.out w10 hb10)
            | (refine step_append_own (by rfl) _ _ (by rfl) wz g3 cap3 t.length (t.length + 1) ([] ++ t) [cc] (.slice (some ⟨wz.heap.size, 0, none⟩) 1 1) (by rfl) (by rfl) (by rfl) (by rfl) ?ho ?hx ?hl ?hb ?_; (case ho => first | exact hown | exact OwnBytes.drew hown | exact OwnBytes.below hown ((Below.refl _ _).alloc (Nat.le_refl _) _) | exact OwnBytes.drew (OwnBytes.below hown ((Below.refl _ _).alloc (Nat.le_refl _) _))); (case hx => (refine ((RowAt.grown ?r1 hgr ?r2).at_ 1 1 rfl).heap' rfl; (case r2 => simp); (case r1 => exact HR3.out.heap' rfl))); (case hl => omega); (case hb => exact And.right (by assumption)); intro g4 cap4 w10 hown4 hgr4 hb10; have hS10 := HK8.out w10 hb10)
            | fail))
        all_goals
          have HB10 := Lib.hid (HB8.out.trans (hb10.mono HB8.out.size))
          have hone := (HOW8.out.below hb10).at_
          rw [List.length_set] at hone
          have hnex := hown4.at_
          rw [List.nil_append, show (t ++ [cc]).length = t.length + 1 from by simp] at hnex
          have HMI := Lib.hid (mix_set a k cc hbm)
          have HK := Lib.hid (fun (W' : World) (h : Below w10.heap.size w10 W') => show (W'.cell? ⟨ga, ia + k, none⟩ = some (.int .u8 (a[k]'hbm).toNat) ∧ W'.cell? ⟨gc, ic, none⟩ = some (.int .u8 cc.toNat) ∧ Below w10.heap.size w10 W') from ⟨HCAK.out W' (HB10.out.trans (h.mono HB10.out.size)) k hbm, HCC.out W' (HB10.out.trans (h.mono HB10.out.size)), h⟩)
          have HS17 := Lib.hid (HK.out w10 (Below.refl _ _))
          have HSD17 : Hid (∀ W' : World, (W'.cell? ⟨ga, ia + k, none⟩ = some (.int .u8 (a[k]'hbm).toNat) ∧ W'.cell? ⟨gc, ic, none⟩ = some (.int .u8 cc.toNat) ∧ Below w10.heap.size w10 W') → (W'.drew.cell? ⟨ga, ia + k, none⟩ = some (.int .u8 (a[k]'hbm).toNat) ∧ W'.drew.cell? ⟨gc, ic, none⟩ = some (.int .u8 cc.toNat) ∧ Below w10.heap.size w10 W'.drew)) := Lib.hid (fun W' h => HK.out _ h.2.2.drew)
          have HSC17 : Hid (∀ W' W1 : World, (W'.cell? ⟨ga, ia + k, none⟩ = some (.int .u8 (a[k]'hbm).toNat) ∧ W'.cell? ⟨gc, ic, none⟩ = some (.int .u8 cc.toNat) ∧ Below w10.heap.size w10 W') → Below W'.heap.size W' W1 → (W1.cell? ⟨ga, ia + k, none⟩ = some (.int .u8 (a[k]'hbm).toNat) ∧ W1.cell? ⟨gc, ic, none⟩ = some (.int .u8 cc.toNat) ∧ Below w10.heap.size w10 W1)) := Lib.hid (fun W' W1 h hb => HK.out _ (h.2.2.trans (hb.mono h.2.2.size)))
          have HM1 := Lib.hid (fun (W' : World) (h : (W'.cell? ⟨ga, ia + k, none⟩ = some (.int .u8 (a[k]'hbm).toNat) ∧ W'.cell? ⟨gc, ic, none⟩ = some (.int .u8 cc.toNat) ∧ Below w10.heap.size w10 W')) => mixAll_any _ (a.set k cc) W' (hone.below h.2.2 (Nat.le_refl _)) (by rw [List.length_set]; unfold maxLen; omega))
          have HM2 := Lib.hid (fun (W' : World) (h : (W'.cell? ⟨ga, ia + k, none⟩ = some (.int .u8 (a[k]'hbm).toNat) ∧ W'.cell? ⟨gc, ic, none⟩ = some (.int .u8 cc.toNat) ∧ Below w10.heap.size w10 W')) => mixAll_any _ a W' (HVA.out.below (HB10.out.trans (h.2.2.mono HB10.out.size)) (Nat.le_refl _)) (by unfold maxLen; omega))
          have HM3 := Lib.hid (fun (W' : World) (h : (W'.cell? ⟨ga, ia + k, none⟩ = some (.int .u8 (a[k]'hbm).toNat) ∧ W'.cell? ⟨gc, ic, none⟩ = some (.int .u8 cc.toNat) ∧ Below w10.heap.size w10 W')) => mixAll_any _ (t ++ [cc]) W' (hnex.below h.2.2 (Nat.le_refl _)) (by rw [show (t ++ [cc]).length = t.length + 1 from by simp]; unfold maxLen; omega))
          have HSH := Lib.hid (fun (W' : World) (h : (W'.cell? ⟨ga, ia + k, none⟩ = some (.int .u8 (a[k]'hbm).toNat) ∧ W'.cell? ⟨gc, ic, none⟩ = some (.int .u8 cc.toNat) ∧ Below w10.heap.size w10 W')) => shown_any W' (HE.out.below (HB10.out.trans (h.2.2.mono HB10.out.size)) h1))
          rw [HMN.out] at HM3
          rw [HMA.out] at HM2 HMI
          generalize mixV (a.set k cc) = mo at *
          obtain ⟨qb, e1, e2⟩ : ∃ qb : Bool, ((mo : Int) != ma) = qb ∧ (((a[k]'hbm).toNat : Int) != cc.toNat) = qb := by
            refine ⟨_, rfl, ?_⟩
            rw [Bool.eq_iff_iff, bne_iff_ne, bne_iff_ne]
            constructor
            · intro h e
              exact h (by rw [HMI.out.1 (by omega)])
            · intro h e
              exact h (by rw [HMI.out.2 (UInt8.toNat_inj.1 (by omega))])
          have e3 : (qb == qb) = true := beq_self_eq_true _
          have e4 : ((mn : Int) == mn) = true := beq_self_eq_true _
          have i1 : (0 : Int) ≤ (k : Int) := by omega
          have i2 : (k : Int) < (a.length : Int) := by omega
          clear hone hnex hown4 hgr4 hgr hown hS10 HMI
          go_wp2_with fail
          go_region_held3 (fun W' => W'.cell? ⟨ga, ia + k, none⟩ = some (.int .u8 (a[k]'hbm).toNat) ∧ W'.cell? ⟨gc, ic, none⟩ = some (.int .u8 cc.toNat) ∧ Below w10.heap.size w10 W') (first | assumption | exact HS17.out | exact HSD17.out _ (by assumption) | exact HSD17.out _ HS17.out)
            ((first
              | (go_at_call 31; (with_reducible refine (HM1.out _ ?hs).mono ?_); (case hs => assumption); rintro e wy ⟨rfl, hby⟩; have hSy := HSC17.out _ _ (by assumption) hby)
              | (go_at_call 31; (with_reducible refine (HM2.out _ ?hs).mono ?_); (case hs => assumption); rintro e wy ⟨rfl, hby⟩; have hSy := HSC17.out _ _ (by assumption) hby)
              | (go_at_call 31; (with_reducible refine (HM3.out _ ?hs).mono ?_); (case hs => assumption); rintro e wy ⟨rfl, hby⟩; have hSy := HSC17.out _ _ (by assumption) hby)
              | (go_at_call 13; (with_reducible refine (HSH.out _ ?hs).mono ?_); (case hs => assumption); rintro e wy ⟨rfl, hby⟩; have hSy := HSC17.out _ _ (by assumption) hby)
              | fail))
          all_goals
            have hfin := HB10.out.trans (hSy.2.2.mono HB10.out.size)
            go_wp2_with fail
            go_ret
            exact ⟨rfl, hfin⟩

theorem sumsLinear_any (s1 s2 s3 : Option Addr) (d1 d2 d3 : Nat) (a b c : List UInt8) (w : World) (hE : Env w) (hva : BytesAt w (.slice s1 a.length d1) a) (hvb : BytesAt w (.slice s2 b.length d2) b) (hvc : BytesAt w (.slice s3 c.length d3) c) (hca : a.length ≤ d1) :
    Calls Tryd.prog 11 #[.slice s1 a.length d1, .slice s2 b.length d2, .slice s3 c.length d3] w fun e w' => e = .returned (.bool true) ∧ Below w.heap.size w w' := by
  by_cases h : 500 < a.length ∨ a.length = 0 ∨ 500 < b.length ∨ b.length = 0 ∨ 500 < c.length ∨ c.length = 0
  · exact linear_shown _ _ _ a b c w hE hva hvb hvc h
  · obtain ⟨ga, ia, rfl, _⟩ := hva.some_ (by omega)
    obtain ⟨gb, ib, rfl, _⟩ := hvb.some_ (by omega)
    obtain ⟨gc, ic, rfl, _⟩ := hvc.some_ (by omega)
    exact linear_main ga ia d1 gb ib d2 gc ic d3 a b c w hE hva hvb hvc hca (by omega) (by omega) (by omega) (by omega) (by omega) (by omega)
end Go.Proofs.YtadaohjphgpdnaaDoor
