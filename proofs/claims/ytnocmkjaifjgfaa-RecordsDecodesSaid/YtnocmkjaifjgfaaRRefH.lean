/- The reference's one: numbers, strings. -/
import Derived.Test.YtnocmkjaifjgfaaRRefG
import Derived.Test.YtnocmkjaifjgfaaRDecD
namespace Go.Proofs.Ytnocmkjaifjgfaa.R
open Go.RowKit

def OnePost (w : World) (c : Nat) (l : List UInt8) (e : Ending) (w' : World) : Prop :=
  ∃ x, e = .returned (.tuple #[.agg #[.int .u64 (oneD c l).1.num, .string (oneD c l).1.str, x], .int .i64 (oneD c l).2.1, .int .i64 (oneD c l).2.2]) ∧ Own32 w' w.heap.size x (oneD c l).1.list ∧ Below w.heap.size w w'
theorem one_post {w w' : World} {c u er : Nat} {l : List UInt8} {v : Rv} {x : Value} (hE : oneD c l = (v, u, er)) (ho : Own32 w' w.heap.size x v.list) (hb : Below w.heap.size w w') : OnePost w c l (.returned (.tuple #[.agg #[.int .u64 v.num, .string v.str, x], .int .i64 u, .int .i64 er])) w' := by
  unfold OnePost; rw [hE]; exact ⟨x, rfl, ho, hb⟩
theorem one_bel {w wa : World} (ha : Below w.heap.size w wa) (u0 u1 u2 : Value) : Below w.heap.size w (((wa.setCell ⟨w.heap.size, 0, none⟩ u0).setCell ⟨w.heap.size, 1, none⟩ u1).setCell ⟨w.heap.size, 2, none⟩ u2) :=
  ha.trans ((put3 w.heap.size u0 u1 u2 wa).toBelow ha.size (fun k hk e => by omega))
theorem bytes_some {w : World} {s : Option Addr} {n d : Nat} {l : List UInt8} (h : BytesAt w (.slice s n d) l) (h0 : 0 < l.length) : ∃ g o, s = some ⟨g, o, none⟩ ∧ g < w.heap.size := by
  rcases h with ⟨a, c, _, rfl⟩ | ⟨g, o, c, hv, hg, _⟩
  · simp at h0
  · injection hv with h1; exact ⟨g, o, h1, hg⟩

set_option maxHeartbeats 4000000 in
set_option maxRecDepth 100000 in
theorem one_w (c : Nat) (s : Option Addr) (d : Nat) (l : List UInt8) (w : World) (hc : 0 < widV c) (hv : BytesAt w (.slice s l.length d) l) (hld : l.length ≤ d) (hl : l.length ≤ maxLen) :
    Calls Try.prog 24 #[.int .u8 c, .slice s l.length d] w (OnePost w c l) := by
  have HO := Lib.hid (oneD_w (l := l) hc)
  have HAL := Lib.hid ((Below.refl w.heap.size w).alloc (Nat.le_refl _) (.cells #[.int .u64 0, .string ⟨#[]⟩, .slice none 0 0] 49 (0, 0)))
  have HWI := Lib.hid (fun W => width_any c W)
  have HV := Lib.hid hv
  have hw8 := wid_le c
  unfold maxLen at hl
  clear hv
  generalize widV c = k at *
  have d0 : decide (0 < k) = true := decide_eq_true (by omega)
  by_cases hn : l.length < k
  · have d1 : decide (l.length < k) = true := decide_eq_true (by omega)
    have HE := Lib.hid (show oneD c l = (Rv.zero, 0, 10) by rw [HO.out, if_pos hn])
    clear hn
    go_enter Try.func24, Try.ntmps24
    go_wp2_with fail
    refine (HWI.out _).mono ?_
    rintro e w2 ⟨rfl, rfl⟩
    go_wp2_with fail
    exact bodyPost_ret (v := .tuple #[.agg #[.int .u64 0, .string ⟨#[]⟩, .slice none 0 0], .int .i64 0, .int .i64 10]) (by simp [results, Try.results24, go_sem]) rfl
      (one_post HE.out (Own32.nil _ _) ((Below.refl _ w).alloc (Nat.le_refl _) _))
  · have d1 : decide (l.length < k) = false := decide_eq_false (by omega)
    have hkd : k ≤ d := by omega
    have hlt : (l.take k).length = k := by rw [List.length_take]; omega
    have HE := Lib.hid (show oneD c l = (⟨numL (l.take k), ByteArray.empty, []⟩, k, 0) by rw [HO.out, if_neg hn])
    have HN := Lib.hid (refNumber_any _ (l.take k) _ ((HV.out.take k (d' := d) (by omega)).below HAL.out (Nat.le_refl _)) (by omega))
    generalize numL (l.take k) = z at *
    obtain ⟨g, o, rfl, hg⟩ := bytes_some HV.out (by omega)
    clear hn hlt
    go_enter Try.func24, Try.ntmps24
    go_wp2_with fail
    refine (HWI.out _).mono ?_
    rintro e w2 ⟨rfl, rfl⟩
    go_wp2_with fail
    refine HN.out.mono ?_
    rintro e w2 ⟨rfl, rfl⟩
    go_wp2_with fail
    exact bodyPost_ret (v := .tuple #[.agg #[.int .u64 z, .string ⟨#[]⟩, .slice none 0 0], .int .i64 k, .int .i64 0]) (by simp [results, Try.results24, go_sem]) rfl
      (one_post HE.out (Own32.nil _ _) ((Below.refl _ w).alloc (Nat.le_refl _) _))

/-- Grouped, but not good. -/
theorem one_bad (c : Nat) (s : Option Addr) (d : Nat) (l : List UInt8) (w : World) (hc : widV c = 0) (hb : (grpD l).2.2 ≠ 0) (hv : BytesAt w (.slice s l.length d) l) (hl : l.length ≤ maxLen) :
    Calls Try.prog 24 #[.int .u8 c, .slice s l.length d] w (OnePost w c l) := by
  have HE := Lib.hid (show oneD c l = (Rv.zero, 0, (grpD l).2.2) by unfold oneD; rw [if_neg (by omega), if_pos hb])
  have HAL := Lib.hid ((Below.refl w.heap.size w).alloc (Nat.le_refl _) (.cells #[.int .u64 0, .string ⟨#[]⟩, .slice none 0 0] 49 (0, 0)))
  have HWI := Lib.hid (fun W => width_any c W)
  rw [hc] at HWI
  have HG := Lib.hid (refGrouped_any _ l _ (hv.below HAL.out (Nat.le_refl _)) hl)
  have hz : (((grpD l).2.2 : Int) == 0) = false := by simp; omega
  generalize (grpD l).2.2 = q at *
  generalize (grpD l).1 = n at *
  generalize (grpD l).2.1 = u at *
  clear hv hb hc
  go_enter Try.func24, Try.ntmps24
  go_wp2_with fail
  refine (HWI.out _).mono ?_
  rintro e w2 ⟨rfl, rfl⟩
  go_wp2_with fail
  refine HG.out.mono ?_
  rintro e w2 ⟨rfl, rfl⟩
  go_wp2_with fail
  exact bodyPost_ret (v := .tuple #[.agg #[.int .u64 0, .string ⟨#[]⟩, .slice none 0 0], .int .i64 0, .int .i64 q]) (by simp [results, Try.results24, go_sem]) rfl
    (one_post HE.out (Own32.nil _ _) ((Below.refl _ w).alloc (Nat.le_refl _) _))
theorem one_v (s : Option Addr) (d : Nat) (l : List UInt8) (w : World) (hb : (grpD l).2.2 = 0) (hv : BytesAt w (.slice s l.length d) l) (hl : l.length ≤ maxLen) :
    Calls Try.prog 24 #[.int .u8 118, .slice s l.length d] w (OnePost w 118 l) := by
  have HE := Lib.hid (oneD_118' l)
  have HAL := Lib.hid ((Below.refl w.heap.size w).alloc (Nat.le_refl _) (.cells #[.int .u64 0, .string ⟨#[]⟩, .slice none 0 0] 49 (0, 0)))
  have HWI := Lib.hid (fun W => width_any 118 W)
  rw [show widV 118 = 0 from rfl] at HWI
  have HG := Lib.hid (refGrouped_any _ l _ (hv.below HAL.out (Nat.le_refl _)) hl)
  rw [hb] at HG HE
  generalize (grpD l).1 = n at *
  generalize (grpD l).2.1 = u at *
  clear hv hb
  go_enter Try.func24, Try.ntmps24
  go_wp2_with fail
  refine (HWI.out _).mono ?_
  rintro e w2 ⟨rfl, rfl⟩
  go_wp2_with fail
  refine HG.out.mono ?_
  rintro e w2 ⟨rfl, rfl⟩
  go_wp2_with fail
  exact bodyPost_ret (v := .tuple #[.agg #[.int .u64 n, .string ⟨#[]⟩, .slice none 0 0], .int .i64 u, .int .i64 0]) (by simp [results, Try.results24, go_sem]) rfl
    (one_post HE.out (Own32.nil _ _) ((Below.refl _ w).alloc (Nat.le_refl _) _))
set_option maxHeartbeats 4000000 in
set_option maxRecDepth 100000 in
theorem one_s (s : Option Addr) (d : Nat) (l : List UInt8) (w : World) (hb : (grpD l).2.2 = 0) (hv : BytesAt w (.slice s l.length d) l) (hld : l.length ≤ d) (hl : l.length ≤ maxLen) :
    Calls Try.prog 24 #[.int .u8 115, .slice s l.length d] w (OnePost w 115 l) := by
  obtain ⟨h1, h2, h3⟩ := oneD_115 l
  have hg1 := grpD_one l hb
  have hpos : 0 < (grpD l).2.1 := by
    have := grpF_pos 9 (grpD l).1
    have e := congrArg List.length hg1.1
    rw [List.length_take] at e
    unfold grpL at e
    omega
  have HAL := Lib.hid ((Below.refl w.heap.size w).alloc (Nat.le_refl _) (.cells #[.int .u64 0, .string ⟨#[]⟩, .slice none 0 0] 49 (0, 0)))
  have HWI := Lib.hid (fun W => width_any 115 W)
  rw [show widV 115 = 0 from rfl] at HWI
  have HG := Lib.hid (refGrouped_any _ l _ (hv.below HAL.out (Nat.le_refl _)) hl)
  have HV := Lib.hid hv
  unfold cntE at h2 h3
  rw [if_neg (by omega)] at h2 h3
  rw [hb] at HG
  obtain ⟨_, hu, hn64⟩ := hg1
  unfold maxLen at hl
  obtain ⟨g, o, rfl, hg⟩ := bytes_some HV.out (by omega)
  generalize (grpD l).1 = n at *
  generalize (grpD l).2.1 = u at *
  clear hv hb h1
  by_cases h4 : 400 < n
  · have HE := Lib.hid (h2 (by rw [if_pos h4]; decide))
    rw [if_pos h4] at HE
    have d4 : decide ((400 : Int) < n) = true := decide_eq_true (by omega)
    clear h4 h2 h3
    go_enter Try.func24, Try.ntmps24
    go_wp2_with fail
    refine (HWI.out _).mono ?_
    rintro e w2 ⟨rfl, rfl⟩
    go_wp2_with fail
    refine HG.out.mono ?_
    rintro e w2 ⟨rfl, rfl⟩
    go_wp2_with fail
    exact bodyPost_ret (v := .tuple #[.agg #[.int .u64 0, .string ⟨#[]⟩, .slice none 0 0], .int .i64 0, .int .i64 3]) (by simp [results, Try.results24, go_sem]) rfl
      (one_post HE.out (Own32.nil _ _) ((Below.refl _ w).alloc (Nat.le_refl _) _))
  rw [if_neg h4, Nat.mul_one] at h2 h3
  have d4 : decide ((400 : Int) < n) = false := decide_eq_false (by omega)
  have hn4 : n ≤ 400 := by omega
  have hnw : IntKind.i64.wrap (n : Int) = n := IntWalk.i64_in _ (by omega)
  obtain ⟨m, hm⟩ : ∃ m, l.length = u + m := ⟨l.length - u, by omega⟩
  have hsub : IntKind.i64.wrap ((l.length : Int) - u) = m := by rw [IntKind.wrap_i64]; omega
  clear h4
  by_cases hlt : l.length - u < n
  · have HE := Lib.hid (h2 (by rw [if_pos hlt]; decide))
    rw [if_pos hlt] at HE
    have d5 : decide (m < n) = true := decide_eq_true (by omega)
    clear hlt h2 h3 hm
    go_enter Try.func24, Try.ntmps24
    go_wp2_with fail
    refine (HWI.out _).mono ?_
    rintro e w2 ⟨rfl, rfl⟩
    go_wp2_with fail
    refine HG.out.mono ?_
    rintro e w2 ⟨rfl, rfl⟩
    go_wp2_with fail
    exact bodyPost_ret (v := .tuple #[.agg #[.int .u64 0, .string ⟨#[]⟩, .slice none 0 0], .int .i64 0, .int .i64 10]) (by simp [results, Try.results24, go_sem]) rfl
      (one_post HE.out (Own32.nil _ _) ((Below.refl _ w).alloc (Nat.le_refl _) _))
  have d5 : decide (m < n) = false := decide_eq_false (by omega)
  have HE := Lib.hid (h3 (by rw [if_neg hlt]))
  have hadd : IntKind.i64.wrap ((u : Int) + n) = u + n := IntWalk.i64_in _ (by omega)
  have hby := ((BytesAt.drop (d' := d - u) HV.out u (by omega)).below HAL.out (Nat.le_refl _))
  have hlen2 : (l.drop u).length = l.length - u := List.length_drop
  rw [← hlen2] at hby
  have hcv := (BytesAt.take (d' := d - u) hby n (by omega)).conv
  have hun : u + n ≤ d := by omega
  have hul : u ≤ d := by omega
  by_cases hud : u = d
  · obtain rfl : n = 0 := by omega
    have hcv0 : ∀ a c, Sem.run Try.prog (convert 25 9 (.slice a 0 c)) (w.alloc (.cells #[.int .u64 0, .string ⟨#[]⟩, .slice none 0 0] 49 (0, 0))) = .ok (.string ⟨#[]⟩) (w.alloc (.cells #[.int .u64 0, .string ⟨#[]⟩, .slice none 0 0] 49 (0, 0))) := fun a c => (BytesAt.none_ a c).conv
    rw [show (List.take 0 (l.drop u)).toArray = #[] from rfl] at HE
    subst hud
    clear hlt h2 h3 hby hlen2 hm hcv hul hun
    go_enter Try.func24, Try.ntmps24
    go_wp2_with fail
    refine (HWI.out _).mono ?_
    rintro e w2 ⟨rfl, rfl⟩
    go_wp2_with fail
    refine HG.out.mono ?_
    rintro e w2 ⟨rfl, rfl⟩
    go_wp2_with fail
    exact bodyPost_ret (v := .tuple #[.agg #[.int .u64 0, .string ⟨#[]⟩, .slice none 0 0], .int .i64 u, .int .i64 0]) (by simp [results, Try.results24, go_sem]) rfl
      (one_post HE.out (Own32.nil _ _) ((Below.refl _ w).alloc (Nat.le_refl _) _))
  generalize (List.take n (l.drop u)).toArray = sa at *
  clear hlt h2 h3 hby hlen2 hm
  go_enter Try.func24, Try.ntmps24
  go_wp2_with fail
  refine (HWI.out _).mono ?_
  rintro e w2 ⟨rfl, rfl⟩
  go_wp2_with fail
  refine HG.out.mono ?_
  rintro e w2 ⟨rfl, rfl⟩
  go_wp2_with fail
  exact bodyPost_ret (v := .tuple #[.agg #[.int .u64 0, .string ⟨sa⟩, .slice none 0 0], .int .i64 (u + n : Nat), .int .i64 0]) (by simp [results, Try.results24, go_sem]) rfl
    (one_post HE.out (Own32.nil _ _) ((Below.refl _ w).alloc (Nat.le_refl _) _))
end Go.Proofs.Ytnocmkjaifjgfaa.R
