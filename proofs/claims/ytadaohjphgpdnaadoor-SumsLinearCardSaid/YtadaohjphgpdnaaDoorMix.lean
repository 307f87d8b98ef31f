/- The mix: halvesOf, isMix, mix, next, Mix, MixOn, Roll; the reference's. -/
import Derived.Test.YtadaohjphgpdnaaDoorZerosP
namespace Go.Proofs.YtadaohjphgpdnaaDoor
open Go.RowKit

theorem u64_of_nat (a : Nat) (ha : a < 18446744073709551616) : (BitVec.ofInt 64 (a : Int)).toNat = a := by
  rw [BitVec.ofInt_natCast, BitVec.toNat_ofNat]; exact Nat.mod_eq_of_lt (by omega)
theorem low32 (a : Nat) (ha : a < 18446744073709551616) : bits .and .u64 (a : Int) 4294967295 = ((a % 4294967296 : Nat) : Int) := by
  show IntKind.u64.wrap ((BitVec.ofInt 64 (a : Int) &&& BitVec.ofInt 64 ((4294967295 : Nat) : Int)).toNat : Int) = _
  rw [BitVec.toNat_and, u64_of_nat a ha, u64_of_nat 4294967295 (by omega), IntKind.wrap_u64, show 4294967295 = 2 ^ 32 - 1 from rfl, Nat.and_two_pow_sub_one_eq_mod]
  omega
theorem or_mix (a b : Nat) (ha : a < 4294967296) (hb : b < 4294967296) : bits .or .u64 ((b * 4294967296 : Nat) : Int) (a : Int) = ((b * 4294967296 + a : Nat) : Int) := by
  show IntKind.u64.wrap ((BitVec.ofInt 64 ((b * 4294967296 : Nat) : Int) ||| BitVec.ofInt 64 (a : Int)).toNat : Int) = _
  rw [BitVec.toNat_or, u64_of_nat a (by omega), u64_of_nat (b * 4294967296) (by omega), IntKind.wrap_u64]
  have e : b * 4294967296 ||| a = b * 4294967296 + a := by
    have := Nat.two_pow_add_eq_or_of_lt (i := 32) (b := a) (by omega) b
    rw [show (2 : Nat) ^ 32 = 4294967296 from rfl] at this
    rw [Nat.mul_comm b, this]
  rw [e]
  omega

def goodV (a b : Nat) : Bool := decide (a < 4294967291 ∧ b < 4294967291)
theorem goodV_mix (h : Nat) : goodV (h % 4294967296) (h / 4294967296) = isMixV h := rfl

theorem halvesOf_any (h : Nat) (w : World) (hh : h < 18446744073709551616) :
    Calls Tryd.prog 44 #[.int .u64 h] w fun e w' => e = .returned (.agg #[.int .u64 (h % 4294967296 : Nat), .int .u64 (h / 4294967296 : Nat)]) ∧ Below w.heap.size w w' := by
  have hl := low32 h hh
  have HB := Lib.hid (fun o => (Below.refl w.heap.size w).alloc (Nat.le_refl _) o)
  go_enter Tryd.func44, Tryd.ntmps44
  go_wp2
  exact bodyPost_ret (v := .agg #[.int .u64 ((h : Int) % 4294967296), .int .u64 ((h : Int) / 4294967296)]) (by simp [results, Tryd.results44, go_sem]) rfl ⟨rfl, HB.out _⟩
theorem isMix_any (a b : Nat) (w : World) :
    Calls Tryd.prog 45 #[.agg #[.int .u64 a, .int .u64 b]] w fun e w' => e = .returned (.bool (goodV a b)) ∧ Below w.heap.size w w' := by
  have HB := Lib.hid (fun o => (Below.refl w.heap.size w).alloc (Nat.le_refl _) o)
  by_cases h1 : a < 4294967291
  · have d1 : decide ((a : Int) < 4294967291) = true := decide_eq_true (by omega)
    by_cases h2 : b < 4294967291
    · have d2 : decide ((b : Int) < 4294967291) = true := decide_eq_true (by omega)
      have HF : Hid (goodV a b = true) := Lib.hid (decide_eq_true ⟨h1, h2⟩)
      clear h1 h2
      go_enter Tryd.func45, Tryd.ntmps45
      go_wp2
      go_ret
      exact ⟨ret_bool HF.out.symm, HB.out _⟩
    · have d2 : decide ((b : Int) < 4294967291) = false := decide_eq_false (by omega)
      have HF : Hid (goodV a b = false) := Lib.hid (decide_eq_false (fun h => h2 h.2))
      clear h1 h2
      go_enter Tryd.func45, Tryd.ntmps45
      go_wp2
      go_ret
      exact ⟨ret_bool HF.out.symm, HB.out _⟩
  · have d1 : decide ((a : Int) < 4294967291) = false := decide_eq_false (by omega)
    have HF : Hid (goodV a b = false) := Lib.hid (decide_eq_false (fun h => h1 h.1))
    clear h1
    go_enter Tryd.func45, Tryd.ntmps45
    go_wp2
    go_ret
    exact ⟨ret_bool HF.out.symm, HB.out _⟩
theorem mix_any (a b : Nat) (w : World) (ha : a < 4294967296) (hb : b < 4294967296) :
    Calls Tryd.prog 47 #[.agg #[.int .u64 a, .int .u64 b]] w fun e w' => e = .returned (.int .u64 (mixOf (a, b) : Nat)) ∧ Below w.heap.size w w' := by
  have hx : bits .or .u64 ((b : Int) * 4294967296) (a : Int) = (mixOf (a, b) : Nat) := or_mix a b ha hb
  have HB := Lib.hid (fun o => (Below.refl w.heap.size w).alloc (Nat.le_refl _) o)
  go_enter Tryd.func47, Tryd.ntmps47
  go_wp2
  go_ret
  exact ⟨rfl, HB.out _⟩

/-- Two halves in block b. -/
def HalvesAt (w : World) (b : Nat) (x y : Nat) : Prop := ∃ t, w.heap[b]? = some (.cells #[.int .u64 x, .int .u64 y] t (0, 0))
/-- Worlds that differ in the halves of block b. -/
structure PutH (b x y : Nat) (w w' : World) : Prop where
  os : w'.os = w.os
  tape : w'.tape = w.tape
  output : w'.output = w.output
  size : w'.heap.size = w.heap.size
  at_ : HalvesAt w' b x y
  other : ∀ k, k ≠ b → w'.heap[k]? = w.heap[k]?
theorem PutH.below {b x y B : Nat} {w w' : World} (h : PutH b x y w w') (hB : B ≤ b) : Below B w w' :=
  ⟨h.os, h.tape, h.output, Nat.le_of_eq h.size.symm, fun k hk => h.other k (by omega)⟩
theorem PutH.self {b x y : Nat} {w : World} (h : HalvesAt w b x y) : PutH b x y w w := ⟨rfl, rfl, rfl, rfl, h, fun _ _ => rfl⟩
theorem PutH.trans {b x y x' y' : Nat} {w w1 w2 : World} (h : PutH b x y w w1) (k : PutH b x' y' w1 w2) : PutH b x' y' w w2 :=
  ⟨k.os.trans h.os, k.tape.trans h.tape, k.output.trans h.output, k.size.trans h.size, k.at_, fun i hi => (k.other i hi).trans (h.other i hi)⟩
theorem HalvesAt.cell0 {w : World} {b x y : Nat} (h : HalvesAt w b x y) : w.cell? ⟨b, 0, none⟩ = some (.int .u64 x) := by obtain ⟨t, h⟩ := h; simp [World.cell?, h]
theorem HalvesAt.cell1 {w : World} {b x y : Nat} (h : HalvesAt w b x y) : w.cell? ⟨b, 1, none⟩ = some (.int .u64 y) := by obtain ⟨t, h⟩ := h; simp [World.cell?, h]
theorem HalvesAt.frozen {w : World} {b x y : Nat} (h : HalvesAt w b x y) (k : Nat) : w.frozen? ⟨b, k, none⟩ = false := by obtain ⟨t, h⟩ := h; simp [World.frozen?, h]
theorem BytesAt.putH {A B : World} {b x y : Nat} {v : Value} {l : List UInt8} (h : BytesAt A v l) (hk : PutH b x y A B) (hn : ∀ g i n c, v = .slice (some ⟨g, i, none⟩) n c → g ≠ b ∨ l = []) : BytesAt B v l := by
  rcases h with h | ⟨g, i, c, rfl, hb, hc⟩
  · exact .inl h
  · rcases hn _ _ _ _ rfl with hn | rfl
    rotate_left
    · exact .inl ⟨_, c, rfl, rfl⟩
    exact .inr ⟨g, i, c, rfl, by rw [hk.size]; exact hb, fun k hk' => (World.cell?_of_block (w := A) (a := ⟨g, i + k, none⟩) (hk.other g hn)).trans (hc k hk')⟩
/-- Two stores into the halves. -/
theorem putH_two {w : World} {b x y : Nat} (h : HalvesAt w b x y) (w' : World) (X Y : Int) (x' y' : Nat) (hX : X = x') (hY : Y = y') (ho : w'.os = w.os) (ht : w'.tape = w.tape) (hp : w'.output = w.output) (hh : w'.heap = ((w.setCell ⟨b, 0, none⟩ (.int .u64 X)).setCell ⟨b, 1, none⟩ (.int .u64 Y)).heap) : PutH b x' y' w w' := by
  obtain ⟨t, h⟩ := h
  subst hX hY
  refine ⟨ho, ht, hp, by rw [hh]; simp [World.setCell], ⟨t, ?_⟩, fun k hk => ?_⟩
  · have p1 := (Put.one b 0 (.int .u64 x') w).block h
    have p2 := (Put.one b 1 (.int .u64 y') (w.setCell ⟨b, 0, none⟩ (.int .u64 x'))).block p1
    rw [hh, p2]; rfl
  · rw [hh]; exact (Below.heap_setCell _ _ _ _ hk).trans (Below.heap_setCell _ _ _ _ hk)

set_option maxHeartbeats 400000 in
theorem nextH_any (b x y c : Nat) (w : World) (hx : x < 4294967296) (hy : y < 4294967296) (hc : c < 256) (h : HalvesAt w b x y) :
    Calls Tryd.prog 46 #[.pointer (some ⟨b, 0, none⟩), .int .u8 c] w fun e w' => e = .returned (.tuple #[]) ∧ PutH b ((x + c) % 4294967291) ((y + (x + c) % 4294967291) % 4294967291) w w' := by
  have HP := Lib.hid (fun w' X Y => putH_two h w' X Y ((x + c) % 4294967291) ((y + (x + c) % 4294967291) % 4294967291))
  have c0 := h.cell0
  have c1 := h.cell1
  have f0 := h.frozen 0
  have f1 := h.frozen 1
  clear h
  go_enter Tryd.func46, Tryd.ntmps46
  go_wp2
  go_region
  go_wp2
  go_end0
  refine ⟨rfl, HP.out _ _ _ ?_ ?_ rfl rfl rfl rfl⟩ <;> omega

theorem mixL_take (a b : Nat) (l : List UInt8) (k : Nat) (h : k < l.length) : mixL a b (l.take (k + 1)) = (((mixL a b (l.take k)).1 + l[k].toNat) % 4294967291, ((mixL a b (l.take k)).2 + ((mixL a b (l.take k)).1 + l[k].toNat) % 4294967291) % 4294967291) := by
  rw [List.take_succ_eq_append_getElem h, mixL_snoc]

set_option maxHeartbeats 400000 in
theorem goOn_mix (b x y : Nat) (v : Value) (l : List UInt8) (w : World) (hx : x < 4294967291) (hy : y < 4294967291) (h : HalvesAt w b x y)
    (hv : BytesAt w v l) (hn : ∀ g i n c, v = .slice (some ⟨g, i, none⟩) n c → g ≠ b ∨ l = []) (hl : l.length ≤ maxLen) :
    Calls Tryd.prog 34 #[.func (.func 46) #[.pointer (some ⟨b, 0, none⟩)] #[], v] w fun e w' => e = .returned (.tuple #[]) ∧ PutH b (mixL x y l).1 (mixL x y l).2 w w' := by
  unfold maxLen at hl
  obtain ⟨s, d, rfl⟩ := hv.shape
  have HV := Lib.hid hv
  have HN := Lib.hid hn
  have HP0 : Hid (PutH b (mixL x y (l.take 0)).1 (mixL x y (l.take 0)).2 w w) := Lib.hid (PutH.self h)
  have HL := Lib.hid (fun k => mixL_lt (l.take k) hx hy)
  clear hv hn h
  go_enter Tryd.func34, Tryd.ntmps34
  go_wp2
  go_loopw [8] (fun i wr => ∃ k : Nat, k ≤ l.length ∧ i = .int .i64 k ∧ Hid (PutH b (mixL x y (l.take k)).1 (mixL x y (l.take k)).2 w wr)) (fun i _ => l.length - (intOf i).toNat)
  case atStart => exact ⟨0, by omega, rfl, HP0⟩
  case round =>
    obtain ⟨k, hk, rfl, hP⟩ := hrel
    by_cases hlt : k < l.length
    · rcases HV.out.putH hP.out HN.out with ⟨a, c, hva, hl0⟩ | ⟨g, i, c, hva, hg, hcs⟩
      · rw [hl0] at hlt; simp at hlt
      · obtain ⟨rfl, rfl⟩ : s = some ⟨g, i, none⟩ ∧ d = c := by cases hva; exact ⟨rfl, rfl⟩
        have hcl := hcs k hlt
        have hby := byte_lt l k hlt
        have HS := Lib.hid (mixL_take x y l k hlt)
        have hlx := HL.out k
        have HX := Lib.hid (nextH_any b (mixL x y (l.take k)).1 (mixL x y (l.take k)).2 l[k].toNat wr (by omega) (by omega) hby hP.out.at_)
        generalize l[k].toNat = z at *
        clear hva hcs hlx
        go_wp2_with fail
        refine HX.out.mono ?_
        rintro e w2 ⟨rfl, hP2⟩
        have HP2 := Lib.hid (hP.out.trans hP2)
        clear hP2
        go_wp2_with fail
        go_roundw
        case rel => exact ⟨k + 1, by omega, by go_num, Lib.hid (by rw [HS.out]; exact HP2.out)⟩
        case measure => simp [intOf]; omega
    · obtain rfl : k = l.length := by omega
      have HQ := Lib.hid hP.out
      rw [List.take_length] at HQ
      clear hP
      go_wp2_with fail
      go_end0
      exact ⟨rfl, HQ.out⟩

/-- The halves as one value: loaded. -/
noncomputable def loadH (x : Value) : Sem Value := Instr.loadAt 69 x
theorem loadH_eq (x : Value) : Instr.loadAt 69 x = loadH x := rfl
theorem loadH_run {w : World} {b x y : Nat} (h : HalvesAt w b x y) : Sem.run Tryd.prog (loadH (.pointer (some ⟨b, 0, none⟩))) w = .ok (.agg #[.int .u64 x, .int .u64 y]) w := by
  obtain ⟨t, h⟩ := h
  have := run_loadVar_row (P := Tryd.prog) w b t 69 #[.int .u64 x, .int .u64 y] (0, 0) _ h Tryd.underlying69 rfl (by kernel_rfl)
  simp [loadH, Instr.loadAt, Instr.sureAddr, Sem.run_bind, this]
attribute [local go_sem ↓] loadH_eq

theorem mixAll_any (v : Value) (l : List UInt8) (w : World) (hv : BytesAt w v l) (hl : l.length ≤ maxLen) :
    Calls Tryd.prog 31 #[v] w fun e w' => e = .returned (.int .u64 (mixV l : Nat)) ∧ Below w.heap.size w w' := by
  obtain ⟨s, d, rfl⟩ := hv.shape
  have HB := Lib.hid ((Below.refl w.heap.size w).alloc (Nat.le_refl _) (.cells #[.int .u64 1, .int .u64 0] 69 (0, 0)))
  have HG := Lib.hid (goOn_mix w.heap.size 1 0 (.slice s l.length d) l (w.alloc (.cells #[.int .u64 1, .int .u64 0] 69 (0, 0))) (by omega) (by omega) ⟨_, heap_alloc_new w _⟩ (hv.below HB.out (Nat.le_refl _)) (fun g i n c e => (hv.lt g i n c e).imp (fun q => by omega) id) hl)
  go_enter Tryd.func31, Tryd.ntmps31
  go_wp2_with fail
  refine HG.out.mono ?_
  rintro e w3 ⟨rfl, hP⟩
  have hll := mixL_lt l (a := 1) (b := 0) (by omega) (by omega)
  have hld := loadH_run hP.at_
  have HB3 := Lib.hid (HB.out.trans (hP.below (Nat.le_refl _)))
  have HX := Lib.hid (mix_any (mixL 1 0 l).1 (mixL 1 0 l).2 w3 (by omega) (by omega))
  clear hP hll HG HB
  go_wp2_with fail
  refine HX.out.mono ?_
  rintro e w2 ⟨rfl, hb⟩
  have HB4 := Lib.hid (HB3.out.trans (hb.mono HB3.out.size))
  clear hb
  go_wp2_with fail
  go_ret
  exact ⟨rfl, HB4.out⟩
end Go.Proofs.YtadaohjphgpdnaaDoor
