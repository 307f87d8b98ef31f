/- MixOn, Roll; the reference's halves, MixOn, Mix, Roll. -/
import Derived.Test.YtadaohjphgpdnaaDoorMix
namespace Go.Proofs.YtadaohjphgpdnaaDoor
open Go.RowKit
attribute [local go_sem ↓] loadH_eq

theorem isMix_lt {h : Nat} (e : isMixV h = true) : h % 4294967296 < 4294967291 ∧ h / 4294967296 < 4294967291 := of_decide_eq_true e
theorem mixE_no {h : Nat} (e : isMixV h = false) : mixE h = 6 := by unfold mixE; rw [e]; rfl
theorem mixE_yes {h : Nat} (e : isMixV h = true) : mixE h = 0 := by unfold mixE; rw [e]; rfl
theorem mixOn_no {h : Nat} {l : List UInt8} (e : isMixV h = false) : mixOnV h l = 0 := by unfold mixOnV; rw [e]; rfl
theorem mixOn_yes {h : Nat} {l : List UInt8} (e : isMixV h = true) : mixOnV h l = mixOf (mixL (h % 4294967296) (h / 4294967296) l) := by unfold mixOnV; rw [e]; rfl

set_option maxHeartbeats 400000 in
theorem mixOn_any (h : Nat) (v : Value) (l : List UInt8) (w : World) (hh : h < 18446744073709551616) (hv : BytesAt w v l) (hl : l.length ≤ maxLen) :
    Calls Tryd.prog 27 #[.int .u64 h, v] w fun e w' => e = .returned (.tuple #[.int .u64 (mixOnV h l : Nat), .int .i64 (mixE h)]) ∧ Below w.heap.size w w' := by
  obtain ⟨s, d, rfl⟩ := hv.shape
  have HO := Lib.hid (halvesOf_any h w hh)
  have ha : h % 4294967296 < 4294967296 := by omega
  have hb : h / 4294967296 < 4294967296 := by omega
  have HV := Lib.hid hv
  have HI := Lib.hid (fun w => isMix_any (h % 4294967296) (h / 4294967296) w)
  rw [goodV_mix] at HI
  clear hv
  cases hm : isMixV h with
  | false =>
    rw [hm] at HI
    have HE := Lib.hid (mixE_no hm)
    have HN := Lib.hid (mixOn_no (l := l) hm)
    clear hm
    generalize h % 4294967296 = x at *
    generalize h / 4294967296 = y at *
    go_enter Tryd.func27, Tryd.ntmps27
    go_wp2_with fail
    refine HO.out.mono ?_
    rintro e w2 ⟨rfl, hb2⟩
    have hld : Sem.run Tryd.prog (loadH (.pointer (some ⟨w2.heap.size, 0, none⟩))) (w2.alloc (.cells #[.int .u64 x, .int .u64 y] 69)) = .ok (.agg #[.int .u64 x, .int .u64 y]) (w2.alloc (.cells #[.int .u64 x, .int .u64 y] 69)) := loadH_run ⟨_, heap_alloc_new w2 _⟩
    have HB := Lib.hid ((hb2.alloc hb2.size (.cells #[.int .u64 x, .int .u64 y] 69)))
    clear hb2
    go_wp2_with fail
    refine (HI.out _).mono ?_
    rintro e w3 ⟨rfl, hb3⟩
    have HB3 := Lib.hid (HB.out.trans (hb3.mono HB.out.size))
    clear hb3
    go_wp2_with fail
    go_ret2
    exact ⟨by rw [HE.out, HN.out]; rfl, HB3.out⟩
  | true =>
    rw [hm] at HI
    obtain ⟨hx, hy⟩ := isMix_lt hm
    have HE := Lib.hid (mixE_yes hm)
    have HN := Lib.hid (mixOn_yes (l := l) hm)
    clear hm ha hb
    generalize h % 4294967296 = x at *
    generalize h / 4294967296 = y at *
    go_enter Tryd.func27, Tryd.ntmps27
    go_wp2_with fail
    refine HO.out.mono ?_
    rintro e w2 ⟨rfl, hb2⟩
    have hld : Sem.run Tryd.prog (loadH (.pointer (some ⟨w2.heap.size, 0, none⟩))) (w2.alloc (.cells #[.int .u64 x, .int .u64 y] 69)) = .ok (.agg #[.int .u64 x, .int .u64 y]) (w2.alloc (.cells #[.int .u64 x, .int .u64 y] 69)) := loadH_run ⟨_, heap_alloc_new w2 _⟩
    have hsz : w2.heap.size < (w2.alloc (.cells #[.int .u64 x, .int .u64 y] 69)).heap.size := by simp
    have HH : HalvesAt (w2.alloc (.cells #[.int .u64 x, .int .u64 y] 69)) w2.heap.size x y := ⟨_, heap_alloc_new w2 _⟩
    have hsz2 := hb2.size
    have HB := Lib.hid ((hb2.alloc hb2.size (.cells #[.int .u64 x, .int .u64 y] 69)))
    have HH := Lib.hid HH
    clear hb2
    go_wp2_with fail
    refine (HI.out _).mono ?_
    rintro e w3 ⟨rfl, hb3⟩
    have HB3 := Lib.hid (HB.out.trans (hb3.mono HB.out.size))
    have hh3 : HalvesAt w3 w2.heap.size x y := by obtain ⟨t, h⟩ := HH.out; exact ⟨t, (hb3.block _ hsz).trans h⟩
    have HG := Lib.hid (goOn_mix w2.heap.size x y (.slice s l.length d) l w3 hx hy hh3 (HV.out.below HB3.out (Nat.le_refl _)) (fun g i n c e => (HV.out.lt g i n c e).imp (fun q => by omega) id) hl)
    clear hb3 hh3 hld
    go_wp2_with fail
    refine HG.out.mono ?_
    rintro e w4 ⟨rfl, hP⟩
    have hll := mixL_lt l hx hy
    have hld := loadH_run hP.at_
    have HB4 := Lib.hid (HB3.out.trans (hP.below hsz2))
    have HX := Lib.hid (mix_any (mixL x y l).1 (mixL x y l).2 w4 (by omega) (by omega))
    clear hP hll HG
    go_wp2_with fail
    refine HX.out.mono ?_
    rintro e w5 ⟨rfl, hb5⟩
    have HB5 := Lib.hid (HB4.out.trans (hb5.mono HB4.out.size))
    clear hb5
    go_wp2_with fail
    go_ret2
    exact ⟨by rw [HE.out, HN.out]; rfl, HB5.out⟩

/-! ### the reference -/
theorem refHalves_any (h : Nat) (w : World) (hh : h < 18446744073709551616) :
    Calls Tryd.prog 48 #[.int .u64 h] w fun e w' => e = .returned (.tuple #[.int .u64 (h % 4294967296 : Nat), .int .u64 (h / 4294967296 : Nat), .bool (isMixV h)]) ∧ w = w' := by
  by_cases h1 : h % 4294967296 < 4294967291
  · have d1 : decide ((h : Int) % 4294967296 < 4294967291) = true := decide_eq_true (by omega)
    by_cases h2 : h / 4294967296 < 4294967291
    · have d2 : decide ((h : Int) / 4294967296 < 4294967291) = true := decide_eq_true (by omega)
      have HF : Hid (isMixV h = true) := Lib.hid (decide_eq_true ⟨h1, h2⟩)
      clear h1 h2
      go_enter Tryd.func48, Tryd.ntmps48
      go_wp2
      go_ret3
      exact ⟨by rw [HF.out]; rfl, rfl⟩
    · have d2 : decide ((h : Int) / 4294967296 < 4294967291) = false := decide_eq_false (by omega)
      have HF : Hid (isMixV h = false) := Lib.hid (decide_eq_false (fun h => h2 h.2))
      clear h1 h2
      go_enter Tryd.func48, Tryd.ntmps48
      go_wp2
      go_ret3
      exact ⟨by rw [HF.out]; rfl, rfl⟩
  · have d1 : decide ((h : Int) % 4294967296 < 4294967291) = false := decide_eq_false (by omega)
    have HF : Hid (isMixV h = false) := Lib.hid (decide_eq_false (fun h => h1 h.1))
    clear h1
    go_enter Tryd.func48, Tryd.ntmps48
    go_wp2
    go_ret3
    exact ⟨by rw [HF.out]; rfl, rfl⟩

set_option maxHeartbeats 400000 in
theorem refMixOn_any (h : Nat) (v : Value) (l : List UInt8) (w : World) (hh : h < 18446744073709551616) (hv : BytesAt w v l) (hl : l.length ≤ maxLen) :
    Calls Tryd.prog 28 #[.int .u64 h, v] w fun e w' => e = .returned (.tuple #[.int .u64 (mixOnV h l : Nat), .int .i64 (mixE h)]) ∧ w = w' := by
  unfold maxLen at hl
  obtain ⟨s, d, rfl⟩ := hv.shape
  have HV := Lib.hid hv
  have HO := Lib.hid (refHalves_any h w hh)
  clear hv
  cases hm : isMixV h with
  | false =>
    rw [hm] at HO
    have HE := Lib.hid (mixE_no hm)
    have HN := Lib.hid (mixOn_no (l := l) hm)
    clear hm
    go_enter Tryd.func28, Tryd.ntmps28
    go_wp2_with fail
    refine HO.out.mono ?_
    rintro e w2 ⟨rfl, rfl⟩
    go_wp2_with fail
    go_ret2
    exact ⟨by rw [HE.out, HN.out]; rfl, rfl⟩
  | true =>
    rw [hm] at HO
    obtain ⟨hx, hy⟩ := isMix_lt hm
    have HE := Lib.hid (mixE_yes hm)
    have HN := Lib.hid (mixOn_yes (l := l) hm)
    clear hm
    generalize h % 4294967296 = x at *
    generalize h / 4294967296 = y at *
    have HL := Lib.hid (fun k => mixL_lt (l.take k) hx hy)
    go_enter Tryd.func28, Tryd.ntmps28
    go_wp2_with fail
    refine HO.out.mono ?_
    rintro e w2 ⟨rfl, rfl⟩
    go_wp2_with fail
    go_loop [6, 7, 9] (fun a b i => ∃ k : Nat, k ≤ l.length ∧ i = .int .i64 k ∧ a = .int .u64 ((mixL x y (l.take k)).1 : Nat) ∧ b = .int .u64 ((mixL x y (l.take k)).2 : Nat)) (fun _ _ i => l.length - (intOf i).toNat)
    case atStart => exact ⟨0, by omega, rfl, rfl, rfl⟩
    case round =>
      obtain ⟨k, hk, rfl, rfl, rfl⟩ := hrel
      have hlx := HL.out k
      by_cases hlt : k < l.length
      · rcases HV.out with ⟨a, c, hva, hl0⟩ | ⟨g, i, c, hva, hg, hcs⟩
        · rw [hl0] at hlt; simp at hlt
        · obtain ⟨rfl, rfl⟩ : s = some ⟨g, i, none⟩ ∧ d = c := by cases hva; exact ⟨rfl, rfl⟩
          have hcl := hcs k hlt
          have hby := byte_lt l k hlt
          have HS := Lib.hid (mixL_take x y l k hlt)
          generalize l[k].toNat = z at *
          obtain ⟨h1, h2⟩ := hlx
          generalize (mixL x y (l.take k)).1 = p at *
          generalize (mixL x y (l.take k)).2 = q at *
          clear hva hcs
          go_wp2_with fail
          go_round
          case rel => exact ⟨k + 1, by omega, by go_num, by rw [HS.out]; rfl, by rw [HS.out]; first | rfl | (congr 1; simp)⟩
          case measure => simp [intOf]; omega
      · obtain rfl : k = l.length := by omega
        have HX := Lib.hid (show (mixL x y (l.take l.length)) = mixL x y l by rw [List.take_length])
        obtain ⟨h1, h2⟩ := hlx
        rw [HX.out] at h1 h2 ⊢
        have HF := Lib.hid (show ((mixOf (mixL x y l) : Nat) : Int) = ((mixL x y l).2 : Int) * 4294967296 + (mixL x y l).1 from by unfold mixOf; simp)
        clear HL HX
        generalize mixL x y l = p at *
        go_wp2_with fail
        go_ret2
        exact ⟨by rw [HE.out, HN.out, HF.out]; rfl, rfl⟩
theorem refMix_any (v : Value) (l : List UInt8) (w : World) (hv : BytesAt w v l) (hl : l.length ≤ maxLen) :
    Calls Tryd.prog 32 #[v] w fun e w' => e = .returned (.int .u64 (mixV l : Nat)) ∧ w = w' := by
  have HX := Lib.hid (refMixOn_any 1 v l w (by omega) hv hl)
  rw [mixV_on] at HX
  clear hv hl
  go_enter Tryd.func32, Tryd.ntmps32
  go_wp2_with fail
  refine HX.out.mono ?_
  rintro e w2 ⟨rfl, rfl⟩
  go_wp2_with fail
  go_ret
  exact ⟨rfl, rfl⟩

/-! ### Roll -/
theorem rollE_a {h : Nat} {n : Int} (e : isMixV h = false) : rollE h n = 6 ∧ ∀ o i, rollV h n o i = 0 := by
  refine ⟨by unfold rollE; rw [e]; rfl, fun o i => by unfold rollV; rw [e]; rfl⟩
theorem rollE_b {h : Nat} {n : Int} (e : isMixV h = true) (hn : n < 1 ∨ 1000000 < n) : rollE h n = 7 ∧ ∀ o i, rollV h n o i = 0 := by
  refine ⟨by unfold rollE; rw [e, if_pos rfl, if_pos hn], fun o i => by unfold rollV; rw [e, if_pos rfl, if_pos hn]⟩
theorem rollE_c {h n : Nat} (e : isMixV h = true) (h1 : 1 ≤ n) (h2 : n ≤ 1000000) : rollE h n = 0 ∧ ∀ o i, rollV h n o i = mixOf (rollA h o i, rollB h n o i) := by
  refine ⟨by unfold rollE; rw [e, if_pos rfl, if_neg (by omega)], fun o i => by unfold rollV; rw [e, if_pos rfl, if_neg (by omega)]; rfl⟩
theorem roll_cases (n : Int) : n < 1 ∨ (¬ n < 1 ∧ 1000000 < n) ∨ ∃ k : Nat, n = k ∧ 1 ≤ k ∧ k ≤ 1000000 := by
  by_cases h : n < 1
  · exact .inl h
  · by_cases h2 : 1000000 < n
    · exact .inr (.inl ⟨h, h2⟩)
    · exact .inr (.inr ⟨n.toNat, by omega, by omega, by omega⟩)

set_option maxHeartbeats 1000000 in
theorem roll_any (h o i : Nat) (n : Int) (w : World) (hh : h < 18446744073709551616) (ho : o < 256) (hi : i < 256) :
    Calls Tryd.prog 29 #[.int .u64 h, .int .i64 n, .int .u8 o, .int .u8 i] w fun e w' => e = .returned (.tuple #[.int .u64 (rollV h n o i : Nat), .int .i64 (rollE h n)]) ∧ Below w.heap.size w w' := by
  have HO := Lib.hid (halvesOf_any h w hh)
  have HI := Lib.hid (fun w => isMix_any (h % 4294967296) (h / 4294967296) w)
  rw [goodV_mix] at HI
  cases hm : isMixV h with
  | false =>
    rw [hm] at HI
    obtain ⟨e1, e2⟩ := rollE_a (n := n) hm
    have HE := Lib.hid e1
    have HN := Lib.hid (e2 o i)
    clear hm e1 e2
    generalize h % 4294967296 = x at *
    generalize h / 4294967296 = y at *
    go_enter Tryd.func29, Tryd.ntmps29
    go_wp2_with fail
    refine HO.out.mono ?_
    rintro e w2 ⟨rfl, hb2⟩
    have hld : Sem.run Tryd.prog (loadH (.pointer (some ⟨w2.heap.size, 0, none⟩))) (w2.alloc (.cells #[.int .u64 x, .int .u64 y] 69)) = .ok (.agg #[.int .u64 x, .int .u64 y]) (w2.alloc (.cells #[.int .u64 x, .int .u64 y] 69)) := loadH_run ⟨_, heap_alloc_new w2 _⟩
    have HB := Lib.hid ((hb2.alloc hb2.size (.cells #[.int .u64 x, .int .u64 y] 69)))
    clear hb2
    go_wp2_with fail
    refine (HI.out _).mono ?_
    rintro e w3 ⟨rfl, hb3⟩
    have HB3 := Lib.hid (HB.out.trans (hb3.mono HB.out.size))
    clear hb3
    go_wp2_with fail
    go_ret2
    exact ⟨by rw [HE.out, HN.out]; rfl, HB3.out⟩
  | true =>
    rw [hm] at HI
    obtain ⟨hx, hy⟩ := isMix_lt hm
    rcases roll_cases n with h1 | ⟨h0, h1⟩ | ⟨k, rfl, hk1, hk2⟩
    · have d1 : decide (n < 1) = true := decide_eq_true h1
      obtain ⟨e1, e2⟩ := rollE_b hm (.inl h1)
      have HE := Lib.hid e1
      have HN := Lib.hid (e2 o i)
      clear hm e1 e2 h1
      generalize h % 4294967296 = x at *
      generalize h / 4294967296 = y at *
      go_enter Tryd.func29, Tryd.ntmps29
      go_wp2_with fail
      refine HO.out.mono ?_
      rintro e w2 ⟨rfl, hb2⟩
      have hld : Sem.run Tryd.prog (loadH (.pointer (some ⟨w2.heap.size, 0, none⟩))) (w2.alloc (.cells #[.int .u64 x, .int .u64 y] 69)) = .ok (.agg #[.int .u64 x, .int .u64 y]) (w2.alloc (.cells #[.int .u64 x, .int .u64 y] 69)) := loadH_run ⟨_, heap_alloc_new w2 _⟩
      have HB := Lib.hid ((hb2.alloc hb2.size (.cells #[.int .u64 x, .int .u64 y] 69)))
      clear hb2
      go_wp2_with fail
      refine (HI.out _).mono ?_
      rintro e w3 ⟨rfl, hb3⟩
      have HB3 := Lib.hid (HB.out.trans (hb3.mono HB.out.size))
      clear hb3
      go_wp2_with fail
      go_ret2
      exact ⟨by rw [HE.out, HN.out]; rfl, HB3.out⟩
    · have d1 : decide (n < 1) = false := decide_eq_false h0
      have d2 : decide (1000000 < n) = true := decide_eq_true h1
      obtain ⟨e1, e2⟩ := rollE_b hm (.inr h1)
      have HE := Lib.hid e1
      have HN := Lib.hid (e2 o i)
      clear hm e1 e2 h1 h0
      generalize h % 4294967296 = x at *
      generalize h / 4294967296 = y at *
      go_enter Tryd.func29, Tryd.ntmps29
      go_wp2_with fail
      refine HO.out.mono ?_
      rintro e w2 ⟨rfl, hb2⟩
      have hld : Sem.run Tryd.prog (loadH (.pointer (some ⟨w2.heap.size, 0, none⟩))) (w2.alloc (.cells #[.int .u64 x, .int .u64 y] 69)) = .ok (.agg #[.int .u64 x, .int .u64 y]) (w2.alloc (.cells #[.int .u64 x, .int .u64 y] 69)) := loadH_run ⟨_, heap_alloc_new w2 _⟩
      have HB := Lib.hid ((hb2.alloc hb2.size (.cells #[.int .u64 x, .int .u64 y] 69)))
      clear hb2
      go_wp2_with fail
      refine (HI.out _).mono ?_
      rintro e w3 ⟨rfl, hb3⟩
      have HB3 := Lib.hid (HB.out.trans (hb3.mono HB.out.size))
      clear hb3
      go_wp2_with fail
      go_ret2
      exact ⟨by rw [HE.out, HN.out]; rfl, HB3.out⟩
    · have d1 : decide ((k : Int) < 1) = false := decide_eq_false (by omega)
      have d2 : decide ((1000000 : Int) < k) = false := decide_eq_false (by omega)
      obtain ⟨e1, e2⟩ := rollE_c hm hk1 hk2
      have HE := Lib.hid e1
      have HN := Lib.hid (e2 o i)
      have hmul : k * o ≤ 1000000 * 255 := Nat.mul_le_mul hk2 (by omega)
      have HA := Lib.hid (show rollA h o i = (h % 4294967296 + 4294967291 - o + i) % 4294967291 from rfl)
      have HBV := Lib.hid (show rollB h k o i = (h / 4294967296 + 4294967291 - k * o + (h % 4294967296 + 4294967291 - o + i) % 4294967291 - 1) % 4294967291 from rfl)
      clear hm e1 e2
      generalize h % 4294967296 = x at *
      generalize h / 4294967296 = y at *
      go_enter Tryd.func29, Tryd.ntmps29
      go_wp2_with fail
      refine HO.out.mono ?_
      rintro e w2 ⟨rfl, hb2⟩
      have hld : Sem.run Tryd.prog (loadH (.pointer (some ⟨w2.heap.size, 0, none⟩))) (w2.alloc (.cells #[.int .u64 x, .int .u64 y] 69)) = .ok (.agg #[.int .u64 x, .int .u64 y]) (w2.alloc (.cells #[.int .u64 x, .int .u64 y] 69)) := loadH_run ⟨_, heap_alloc_new w2 _⟩
      have hsz : w2.heap.size < (w2.alloc (.cells #[.int .u64 x, .int .u64 y] 69)).heap.size := by simp
      have HH := Lib.hid (show HalvesAt (w2.alloc (.cells #[.int .u64 x, .int .u64 y] 69)) w2.heap.size x y from ⟨_, heap_alloc_new w2 _⟩)
      have hsz2 := hb2.size
      have HB := Lib.hid ((hb2.alloc hb2.size (.cells #[.int .u64 x, .int .u64 y] 69)))
      clear hb2
      go_wp2_with fail
      refine (HI.out _).mono ?_
      rintro e w3 ⟨rfl, hb3⟩
      have HB3 := Lib.hid (HB.out.trans (hb3.mono HB.out.size))
      have hh3 : HalvesAt w3 w2.heap.size x y := by obtain ⟨t, h⟩ := HH.out; exact ⟨t, (hb3.block _ hsz).trans h⟩
      have HP := Lib.hid (fun w' X Y => putH_two hh3 w' X Y (rollA h o i) (rollB h k o i))
      have c0 := hh3.cell0
      have c1 := hh3.cell1
      have f0 := hh3.frozen 0
      have f1 := hh3.frozen 1
      have hmulI : (k : Int) * (o : Int) ≤ 255000000 := by rw [← Int.natCast_mul]; omega
      have hmul0 : 0 ≤ (k : Int) * (o : Int) := by rw [← Int.natCast_mul]; omega
      have hX : (((x : Int) + 4294967291 - o + i) % 4294967291) = (rollA h o i : Nat) := by rw [HA.out]; omega
      have hY : (((y : Int) + 4294967291 - k * o + ((x : Int) + 4294967291 - o + i) % 4294967291 - 1) % 4294967291) = (rollB h k o i : Nat) := by
        rw [HBV.out]
        have e : ((k * o : Nat) : Int) = (k : Int) * o := Int.natCast_mul _ _
        rw [← e]
        generalize k * o = m at *
        omega
      have hP := HP.out ((w3.setCell ⟨w2.heap.size, 0, none⟩ (.int .u64 (((x : Int) + 4294967291 - o + i) % 4294967291))).setCell ⟨w2.heap.size, 1, none⟩ (.int .u64 (((y : Int) + 4294967291 - k * o + ((x : Int) + 4294967291 - o + i) % 4294967291 - 1) % 4294967291))) _ _ hX hY rfl rfl rfl rfl
      have hld2 : Sem.run Tryd.prog (loadH (.pointer (some ⟨w2.heap.size, 0, none⟩))) ((w3.setCell ⟨w2.heap.size, 0, none⟩ (.int .u64 (((x : Int) + 4294967291 - o + i) % 4294967291))).setCell ⟨w2.heap.size, 1, none⟩ (.int .u64 (((y : Int) + 4294967291 - k * o + ((x : Int) + 4294967291 - o + i) % 4294967291 - 1) % 4294967291))) = .ok (.agg #[.int .u64 (rollA h o i : Nat), .int .u64 (rollB h k o i : Nat)]) ((w3.setCell ⟨w2.heap.size, 0, none⟩ (.int .u64 (((x : Int) + 4294967291 - o + i) % 4294967291))).setCell ⟨w2.heap.size, 1, none⟩ (.int .u64 (((y : Int) + 4294967291 - k * o + ((x : Int) + 4294967291 - o + i) % 4294967291 - 1) % 4294967291))) := loadH_run hP.at_
      have ha : rollA h o i < 4294967296 := by rw [HA.out]; omega
      have hb : rollB h k o i < 4294967296 := by rw [HBV.out]; omega
      have HX := Lib.hid (mix_any (rollA h o i) (rollB h k o i) ((w3.setCell ⟨w2.heap.size, 0, none⟩ (.int .u64 (((x : Int) + 4294967291 - o + i) % 4294967291))).setCell ⟨w2.heap.size, 1, none⟩ (.int .u64 (((y : Int) + 4294967291 - k * o + ((x : Int) + 4294967291 - o + i) % 4294967291 - 1) % 4294967291))) ha hb)
      have HB4 := Lib.hid (HB3.out.trans (hP.below hsz2))
      clear hb3 hh3 hld hsz hX hY hP ha hb
      go_wp2_with fail
      refine HX.out.mono ?_
      rintro e w5 ⟨rfl, hb5⟩
      have HB5 := Lib.hid (HB4.out.trans (hb5.mono HB4.out.size))
      clear hb5
      go_wp2_with fail
      go_ret2
      exact ⟨by rw [HE.out, HN.out]; rfl, HB5.out⟩

set_option maxHeartbeats 1000000 in
theorem refRoll_any (h o i : Nat) (n : Int) (w : World) (hh : h < 18446744073709551616) (ho : o < 256) (hi : i < 256) :
    Calls Tryd.prog 30 #[.int .u64 h, .int .i64 n, .int .u8 o, .int .u8 i] w fun e w' => e = .returned (.tuple #[.int .u64 (rollV h n o i : Nat), .int .i64 (rollE h n)]) ∧ w = w' := by
  have HO := Lib.hid (refHalves_any h w hh)
  cases hm : isMixV h with
  | false =>
    rw [hm] at HO
    obtain ⟨e1, e2⟩ := rollE_a (n := n) hm
    have HE := Lib.hid e1
    have HN := Lib.hid (e2 o i)
    clear hm e1 e2
    go_enter Tryd.func30, Tryd.ntmps30
    go_wp2_with fail
    refine HO.out.mono ?_
    rintro e w2 ⟨rfl, rfl⟩
    go_wp2_with fail
    go_ret2
    exact ⟨by rw [HE.out, HN.out]; rfl, rfl⟩
  | true =>
    rw [hm] at HO
    obtain ⟨hx, hy⟩ := isMix_lt hm
    rcases roll_cases n with h1 | ⟨h0, h1⟩ | ⟨k, rfl, hk1, hk2⟩
    · have d1 : decide (n < 1) = true := decide_eq_true h1
      obtain ⟨e1, e2⟩ := rollE_b hm (.inl h1)
      have HE := Lib.hid e1
      have HN := Lib.hid (e2 o i)
      clear hm e1 e2 h1
      generalize h % 4294967296 = x at *
      generalize h / 4294967296 = y at *
      go_enter Tryd.func30, Tryd.ntmps30
      go_wp2_with fail
      refine HO.out.mono ?_
      rintro e w2 ⟨rfl, rfl⟩
      go_wp2_with fail
      go_ret2
      exact ⟨by rw [HE.out, HN.out]; rfl, rfl⟩
    · have d1 : decide (n < 1) = false := decide_eq_false h0
      have d2 : decide (1000000 < n) = true := decide_eq_true h1
      obtain ⟨e1, e2⟩ := rollE_b hm (.inr h1)
      have HE := Lib.hid e1
      have HN := Lib.hid (e2 o i)
      clear hm e1 e2 h1 h0
      generalize h % 4294967296 = x at *
      generalize h / 4294967296 = y at *
      go_enter Tryd.func30, Tryd.ntmps30
      go_wp2_with fail
      refine HO.out.mono ?_
      rintro e w2 ⟨rfl, rfl⟩
      go_wp2_with fail
      go_ret2
      exact ⟨by rw [HE.out, HN.out]; rfl, rfl⟩
    · have d1 : decide ((k : Int) < 1) = false := decide_eq_false (by omega)
      have d2 : decide ((1000000 : Int) < k) = false := decide_eq_false (by omega)
      obtain ⟨e1, e2⟩ := rollE_c hm hk1 hk2
      have HE := Lib.hid e1
      have HN := Lib.hid (e2 o i)
      have hmul : k * o ≤ 1000000 * 255 := Nat.mul_le_mul hk2 (by omega)
      have HA := Lib.hid (show rollA h o i = (h % 4294967296 + 4294967291 - o + i) % 4294967291 from rfl)
      have HBV := Lib.hid (show rollB h k o i = (h / 4294967296 + 4294967291 - k * o + (h % 4294967296 + 4294967291 - o + i) % 4294967291 - 1) % 4294967291 from rfl)
      clear hm e1 e2
      generalize h % 4294967296 = x at *
      generalize h / 4294967296 = y at *
      have hmulI : (k : Int) * (o : Int) ≤ 255000000 := by rw [← Int.natCast_mul]; omega
      have hmul0 : 0 ≤ (k : Int) * (o : Int) := by rw [← Int.natCast_mul]; omega
      have hX : (((x : Int) + 4294967291 - o + i) % 4294967291) = (rollA h o i : Nat) := by rw [HA.out]; omega
      have hY : (((y : Int) + 4294967291 - k * o + ((x : Int) + 4294967291 - o + i) % 4294967291 + 4294967291 - 1) % 4294967291) = (rollB h k o i : Nat) := by
        rw [HBV.out]
        have e : ((k * o : Nat) : Int) = (k : Int) * o := Int.natCast_mul _ _
        rw [← e]
        generalize k * o = m at *
        omega
      have HF := Lib.hid (show (((y : Int) + 4294967291 - k * o + ((x : Int) + 4294967291 - o + i) % 4294967291 + 4294967291 - 1) % 4294967291) * 4294967296 + (((x : Int) + 4294967291 - o + i) % 4294967291) = (mixOf (rollA h o i, rollB h k o i) : Nat) by rw [hY, hX]; unfold mixOf; simp)
      clear hX hY
      go_enter Tryd.func30, Tryd.ntmps30
      go_wp2_with fail
      refine HO.out.mono ?_
      rintro e w2 ⟨rfl, rfl⟩
      go_wp2_with fail
      go_ret2
      exact ⟨by rw [HE.out, HN.out, ← HF.out]; rfl, rfl⟩
end Go.Proofs.YtadaohjphgpdnaaDoor
