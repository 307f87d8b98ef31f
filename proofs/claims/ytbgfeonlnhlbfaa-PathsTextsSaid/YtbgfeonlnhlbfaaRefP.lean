/- The reference: text, Print, Parse. -/
import Derived.Test.YtbgfeonlnhlbfaaRef3
import Derived.Test.YtbgfeonlnhlbfaaPrint
import Derived.Test.YtbgfeonlnhlbfaaParse
namespace Go.Proofs.Ytbgfeonlnhlbfaa
open Go.RowKit

theorem app_str (a b : Bs) : (⟨a.toArray⟩ : ByteArray) ++ ⟨b.toArray⟩ = ⟨(a ++ b).toArray⟩ := by
  apply ByteArray.ext
  simp [ByteArray.data_append]
theorem toB_of (s : ByteArray) : (⟨s.data.toList.toArray⟩ : ByteArray) = s := by cases s; simp

set_option maxHeartbeats 2000000 in
set_option maxRecDepth 100000 in
theorem textR_any (v1 : Value) (ps : List ByteArray) (w : World) (h1 : StrsAt w v1 ps) (hl : ps.length ≤ 8) (hs : ∀ s ∈ ps, s.size ≤ 24) :
    Calls Try.prog 44 #[v1] w fun e w' => e = .returned (.string ⟨(textL (bsL ps)).toArray⟩) ∧ Below w.heap.size w w' := by
  by_cases he : ps = []
  · subst he
    obtain ⟨a1, c1, rfl⟩ := h1.shape
    clear h1
    go_enter Try.func44, Try.ntmps44
    go_wp2_with fail
    go_ret
    exact ⟨rfl, Below.refl _ _⟩
  · have HT := Lib.hid (textL_cons (bsL ps) (by simpa using he))
    rw [HT.out]
    have hne : ((ps.length : Int) == 0) = false := by simp; exact he
    have H1 := Lib.hid h1
    have HS := Lib.hid hs
    obtain ⟨a1, c1, rfl⟩ := h1.shape
    clear h1 he hs
    go_enter Try.func44, Try.ntmps44
    go_wp2_with fail
    go_loopw [3, 4] (fun t i wr => ∃ k : Nat, k ≤ ps.length ∧ i = .int .i64 k ∧ t = .string ⟨(joinS (bsL (ps.take k))).toArray⟩ ∧ Below w.heap.size w wr) (fun _ i _ => ps.length - (intOf i).toNat)
    case atStart => exact ⟨0, Nat.zero_le _, rfl, rfl, Below.refl _ _⟩
    case round =>
      obtain ⟨k, hk, rfl, rfl, hbel⟩ := hrel
      by_cases hlt : k < ps.length
      · obtain ⟨g1, o1, rfl, hp⟩ := H1.out.at' k hlt
        have hc0 := hp wr hbel
        have hsk := HS.out ps[k] (List.getElem_mem hlt)
        have HNX : Hid ((⟨(joinS (bsL (ps.take k))).toArray⟩ : ByteArray) ++ ⟨#[47]⟩ ++ ps[k] = ⟨(joinS (bsL (ps.take (k + 1)))).toArray⟩) := Lib.hid (by
          rw [List.take_succ_eq_append_getElem hlt]
          show _ = (⟨(joinS (List.map _ (ps.take k ++ [ps[k]]))).toArray⟩ : ByteArray)
          rw [List.map_append]
          show _ = (⟨(joinS (bsL (ps.take k) ++ [ps[k].data.toList])).toArray⟩ : ByteArray)
          rw [joinS_snoc, show (⟨#[47]⟩ : ByteArray) = ⟨([47] : Bs).toArray⟩ from rfl, app_str]
          conv => lhs; rw [← toB_of ps[k]]
          rw [app_str]; simp)
        have hjl : (⟨(joinS (bsL (ps.take k))).toArray⟩ : ByteArray).size ≤ 1000 := by
          rw [← size_len]
          show (joinS (bsL (ps.take k))).length ≤ 1000
          have h3 := joinS_len (bsL (ps.take k)) 24 (fun s hs => by
            obtain ⟨t, ht, rfl⟩ := List.mem_map.1 hs
            rw [size_len]; exact HS.out t (List.mem_of_mem_take ht))
          rw [List.length_map, List.length_take] at h3
          omega
        clear hp
        generalize ps[k] = s at *
        generalize (⟨(joinS (bsL (ps.take k))).toArray⟩ : ByteArray) = J at *
        go_wp2_with fail
        go_roundw
        case rel => exact ⟨k + 1, by omega, by go_num, by rw [← HNX.out], hbel⟩
        case measure => simp [intOf]; omega
      · obtain rfl : k = ps.length := by omega
        rw [List.take_length]
        go_wp2_with fail
        go_ret
        exact ⟨rfl, hbel⟩

set_option maxHeartbeats 2000000 in
set_option maxRecDepth 100000 in
theorem PrintR_any (v1 : Value) (ps : List ByteArray) (w : World) (h1 : StrsAt w v1 ps) (m1 : Modest ps) :
    Calls Try.prog 16 #[v1] w fun e w' => e = .returned (.tuple #[.string ⟨(printT (bsL ps)).toArray⟩, .int .i64 (checkE (bsL ps))]) ∧ Below w.heap.size w w' := by
  have HC := Lib.hid (checkR_any v1 ps w h1 m1)
  have H1 := Lib.hid h1
  obtain ⟨a1, c1, rfl⟩ := h1.shape
  clear h1 m1
  by_cases h0 : checkE (bsL ps) = 0
  · have hz := checkE_zero.1 h0
    have hl8 : ps.length ≤ 8 := by have := hz.1; simpa using this
    have hsz : ∀ s ∈ ps, s.size ≤ 24 := fun s hs => by have := (nameE_ok (hz.2 _ (List.mem_map.2 ⟨s, hs, rfl⟩))).2.1; rwa [size_len] at this
    have HP := Lib.hid (show printT (bsL ps) = textL (bsL ps) by unfold printT; rw [if_pos h0])
    have HX := Lib.hid (fun w1 (hb : Below w.heap.size w w1) => textR_any _ ps w1 (H1.out.below hb) hl8 hsz)
    rw [HP.out, h0]
    rw [h0] at HC
    clear h0 hz hsz
    go_enter Try.func16, Try.ntmps16
    go_wp2_with fail
    refine HC.out.mono ?_
    rintro e w1 ⟨rfl, hb1⟩
    go_wp2_with fail
    refine (HX.out w1 hb1).mono ?_
    rintro e w2 ⟨rfl, hb2⟩
    have hbb := hb1.trans (hb2.mono hb1.size)
    go_wp2_with fail
    go_ret2
    exact ⟨rfl, hbb⟩
  · have HP := Lib.hid (show printT (bsL ps) = [] by unfold printT; rw [if_neg h0])
    rw [HP.out]
    obtain ⟨z, hz⟩ : ∃ z, z = checkE (bsL ps) := ⟨_, rfl⟩
    rw [← hz] at HC h0 ⊢
    have hz' : (z != 0) = true := by simpa using h0
    clear hz
    go_enter Try.func16, Try.ntmps16
    go_wp2_with fail
    refine HC.out.mono ?_
    rintro e w1 ⟨rfl, hb1⟩
    go_wp2_with fail
    go_ret2
    exact ⟨rfl, hb1⟩

/-! ### Parse -/
/-- How far the reference's Parse has come: the pieces pre, the next one from f on, at k. -/
structure PAt (L : Bs) (k f : Nat) (pre : List Bs) : Prop where
  f1 : 1 ≤ f
  fk : f ≤ k
  kn : k ≤ L.length
  split : splitS (L.drop 1) = pre ++ splitS (L.drop f)
  no : 47 ∉ (L.drop f).take (k - f)
  len : pre.length + 1 ≤ f
theorem drop_split (l : Bs) (j : Nat) (hj : j < l.length) (h : l[j] = 47) : l = l.take j ++ 47 :: l.drop (j + 1) := by
  conv => lhs; rw [← List.take_append_drop j l]
  rw [List.drop_eq_getElem_cons hj, h]
theorem PAt.slash {L : Bs} {k f : Nat} {pre : List Bs} (h : PAt L k f pre) (hk : k < L.length) (hs : L[k] = 47) : PAt L (k + 1) (k + 1) (pre ++ [(L.drop f).take (k - f)]) := by
  have h1 := h.f1; have h2 := h.fk; have h3 := h.len
  refine ⟨by omega, Nat.le_refl _, hk, ?_, by simp, by simp; omega⟩
  rw [h.split, List.append_assoc]
  congr 1
  have hj : k - f < (L.drop f).length := by rw [List.length_drop]; omega
  have he : (L.drop f)[k - f] = 47 := by rw [List.getElem_drop]; simp only [show f + (k - f) = k by omega]; exact hs
  conv => lhs; rw [drop_split (L.drop f) (k - f) hj he]
  rw [splitS_app h.no, List.drop_drop, show f + (k - f + 1) = k + 1 by omega]; rfl
theorem PAt.next {L : Bs} {k f : Nat} {pre : List Bs} (h : PAt L k f pre) (hk : k < L.length) (hs : L[k] ≠ 47) : PAt L (k + 1) f pre := by
  have h2 := h.fk
  refine ⟨h.f1, by omega, hk, h.split, ?_, h.len⟩
  have hj : k - f < (L.drop f).length := by rw [List.length_drop]; omega
  rw [show k + 1 - f = (k - f) + 1 by omega, List.take_succ_eq_append_getElem hj]
  intro hm
  rcases List.mem_append.1 hm with hm | hm
  · exact h.no hm
  · rw [List.mem_singleton] at hm
    apply hs
    rw [List.getElem_drop] at hm
    simp only [show f + (k - f) = k by omega] at hm
    exact hm.symm
theorem PAt.last {L : Bs} {f : Nat} {pre : List Bs} (h : PAt L L.length f pre) : splitS (L.drop 1) = pre ++ [(L.drop f).take (L.length - f)] := by
  have hn := h.no
  rw [List.take_of_length_le (by rw [List.length_drop]; omega)] at hn ⊢
  rw [h.split, splitS_none hn]

set_option maxHeartbeats 4000000 in
set_option maxRecDepth 100000 in
theorem parseR_some (s : ByteArray) (r : Bs) (w : World) (hr : s.data.toList = 47 :: r) (hr0 : r ≠ []) (hs : s.size ≤ 1000) :
    Calls Try.prog 14 #[.string s] w fun e w' => ∃ v, e = .returned (.tuple #[v, .int .i64 (parseE s.data.toList)]) ∧ StrsAt w' v (parseA s) ∧ Below w.heap.size w w' := by
  obtain ⟨i0, hi, hz0, hz1, hz2⟩ := info_parts Try.infoStr
  have HE := Lib.hid (show parseE s.data.toList = checkE (splitS r) by rw [hr, parseE, if_pos rfl, if_neg hr0])
  have HA := Lib.hid (show parseA s = if checkE (splitS r) = 0 then (splitS r).map toB else [] by
    unfold parseA parseP
    rw [hr, parseE, if_pos rfl, if_neg hr0]
    split
    · rw [if_neg (fun e => hr0 (by rw [List.cons.injEq] at e; exact e.2))]; rfl
    · rfl)
  have hsz : s.size = r.length + 1 := by rw [← size_len, hr]; rfl
  have hrl : 0 < r.length := by cases r with | nil => exact absurd rfl hr0 | cons a t => simp
  have b1 : s.toList.isEmpty = false := by rw [Lib.toList_data, hr]; rfl
  have b2 : (s.toList == [47]) = false := by rw [Lib.toList_data, hr]; simpa using hr0
  have h0 : 0 < s.size := by omega
  have b3 : (((s[0]'h0).toNat : Int) != 47) = false := by
    have : s[0]'h0 = 47 := by
      show s.data.toList[0]'(by rw [size_len]; omega) = 47
      simp only [hr, List.getElem_cons_zero]
    rw [this]; rfl
  have HD1 := Lib.hid (show s.data.toList.drop 1 = r by rw [hr]; rfl)
  have HPL := Lib.hid (fun x (h : x ∈ splitS r) => splitS_len r x h)
  have HP0 : Hid (PAt s.data.toList 1 1 []) := Lib.hid ⟨Nat.le_refl _, Nat.le_refl _, by rw [size_len]; omega, rfl, by simp, Nat.le_refl _⟩
  have HLN := Lib.hid (size_len s)
  rw [HE.out, HA.out]
  obtain ⟨zz, hzz⟩ : ∃ zz, Hid (checkE (splitS r) = zz) := ⟨_, Lib.hid rfl⟩
  rw [hzz.out]
  obtain ⟨RES, hres⟩ : ∃ RES, Hid ((if zz = 0 then (splitS r).map toB else []) = RES) := ⟨_, Lib.hid rfl⟩
  rw [hres.out]
  have HSZ := Lib.hid hsz
  clear HE HA hr hr0 hsz
  go_enter Try.func14, Try.ntmps14
  go_wp2_with fail
  clear b1 b2 b3
  go_loopw [4, 5, 6] (fun u fv i wr => ∃ (k : Nat) (f : Nat) (pre : List Bs), i = .int .i64 k ∧ fv = .int .i64 f ∧ k ≤ s.size + 1 ∧ Hid (wr.ownsRow w.heap.size 9 1 u pre.length (cellsL (pre.map toB))) ∧ Below w.heap.size w wr ∧ Hid ((k ≤ s.size ∧ PAt s.data.toList k f pre) ∨ (k = s.size + 1 ∧ splitS r = pre)) ∧ pre.length ≤ 1002) (fun _ _ i _ => s.size + 1 - (intOf i).toNat)
  case atStart => exact ⟨1, 1, [], rfl, rfl, by omega, Lib.hid (World.ownsRow_nil _ _ _ _), Below.refl _ _, Lib.hid (.inl ⟨by omega, HP0.out⟩), by simp⟩
  case round =>
    obtain ⟨k, f, pre, rfl, rfl, hk, hrow, hbel, hat, hpl⟩ := hrel
    by_cases hle : k ≤ s.size
    · have hp : Hid (PAt s.data.toList k f pre) := Lib.hid (hat.out.elim (fun h => h.2) (fun h => absurd h.1 (by omega)))
      have hfk := hp.out.fk
      have hf1 := hp.out.f1
      have hflen := hp.out.len
      have hext : Hid (s.extract f k = toB ((s.data.toList.drop f).take (k - f))) := Lib.hid (of_list _ _ (by rw [Lib.extract_data]))
      have hcell : Hid (cellsL ((pre ++ [(s.data.toList.drop f).take (k - f)]).map toB) = cellsL (pre.map toB) ++ [.string (s.extract f k)]) := Lib.hid (by rw [hext.out]; simp [cellsL])
      have j0 : (0 : Int) ≤ (f : Int) := by omega
      have j1 : (f : Int) ≤ (k : Int) := by omega
      have j2 : (k : Int) ≤ (s.size : Int) := by omega
      by_cases hend : k = s.size
      · subst hend
        have HL : Hid (splitS r = pre ++ [(s.data.toList.drop f).take (s.size - f)]) := Lib.hid (by
          have h1 := hp.out
          rw [← HLN.out] at h1
          have := h1.last
          rw [HD1.out, HLN.out] at this; exact this)
        generalize hxx : s.extract f s.size = piece at *
        go_wp2_with (at_builtin; refine wpList_append_own _ rfl _ _ 22 rfl w.heap.size 9 i0 (.string ⟨#[]⟩) 1 16 Try.underlying22 hi hz0 hz1 hz2 rfl (by decide) _ _ _ rfl (hrow.out.alloc _) ⟨wr.heap.size, 0, none⟩ 1 1 [.string piece] rfl rfl (cell_one_new _ _ _) (by simp [Value.oneCell']) (by unfold maxLen; omega) (by omega) (by have := hbel.size; simp; omega) ?_; intro v' w3 hown3 hgrow3 _; obtain ⟨g', cap', rfl⟩ := ownsRow_succ hown3)
        have hs0 := hbel.size
        have hbel3 : Below w.heap.size w w3 := (hbel.alloc hs0 _).grown hgrow3 (by simp; omega) (fun k e => (hrow.out.lt k e).1)
        go_roundw
        case rel => exact ⟨s.size + 1, s.size + 1, _, by go_num, by go_num, Nat.le_refl _, Lib.hid (by rw [hcell.out, List.length_append, List.length_singleton]; exact hown3), hbel3, Lib.hid (.inr ⟨rfl, HL.out⟩), by rw [List.length_append, List.length_singleton]; omega⟩
        case measure => simp [intOf]
      · have hlt : k < s.size := by omega
        have n1 : ((k : Int) == (s.size : Int)) = false := by simp; omega
        have hgk : s[k] = s.data.toList[k]'(by rw [HLN.out]; exact hlt) := rfl
        by_cases hsl : s[k] = 47
        · have n2 : ((s[k].toNat : Int) == 47) = true := by rw [hsl]; rfl
          have HN := Lib.hid (hp.out.slash (by rw [HLN.out]; exact hlt) (by rw [← hgk]; exact hsl))
          clear hsl hgk
          generalize hxx : s.extract f k = piece at *
          go_wp2_with (at_builtin; refine wpList_append_own _ rfl _ _ 22 rfl w.heap.size 9 i0 (.string ⟨#[]⟩) 1 16 Try.underlying22 hi hz0 hz1 hz2 rfl (by decide) _ _ _ rfl (hrow.out.alloc _) ⟨wr.heap.size, 0, none⟩ 1 1 [.string piece] rfl rfl (cell_one_new _ _ _) (by simp [Value.oneCell']) (by unfold maxLen; omega) (by omega) (by have := hbel.size; simp; omega) ?_; intro v' w3 hown3 hgrow3 _; obtain ⟨g', cap', rfl⟩ := ownsRow_succ hown3)
          have hs0 := hbel.size
          have hbel3 : Below w.heap.size w w3 := (hbel.alloc hs0 _).grown hgrow3 (by simp; omega) (fun k e => (hrow.out.lt k e).1)
          go_roundw
          case rel => exact ⟨k + 1, k + 1, _, by go_num, by go_num, by omega, Lib.hid (by rw [hcell.out, List.length_append, List.length_singleton]; exact hown3), hbel3, Lib.hid (.inl ⟨by omega, HN.out⟩), by rw [List.length_append, List.length_singleton]; omega⟩
          case measure => simp [intOf]; omega
        · have n2 : ((s[k].toNat : Int) == 47) = false := by
            rw [beq_eq_false_iff_ne]; intro e; exact hsl (UInt8.toNat_inj.1 (by show s[k].toNat = 47; omega))
          have HN := Lib.hid (hp.out.next (by rw [HLN.out]; exact hlt) (by rw [← hgk]; exact hsl))
          clear hsl hgk
          go_wp2_with fail
          go_roundw
          case rel => exact ⟨k + 1, f, pre, by go_num, rfl, by omega, hrow, hbel, Lib.hid (.inl ⟨by omega, HN.out⟩), hpl⟩
          case measure => simp [intOf]; omega
    · have hkk : k = s.size + 1 := by omega
      have hpre : splitS r = pre := hat.out.elim (fun h => absurd h.1 (by omega)) (fun h => h.2)
      subst hpre
      have hrows := strs_of_row (ss := (splitS r).map toB) (by rw [List.length_map]; exact hrow.out)
      have HROWS := Lib.hid hrows
      have hmod : Modest ((splitS r).map toB) := ⟨by rw [List.length_map]; omega, fun t ht => by
        obtain ⟨x, hx, rfl⟩ := List.mem_map.1 ht
        have h3 := HPL.out x hx
        have h4 := HSZ.out
        rw [toB_size]; omega⟩
      obtain ⟨av, cv, hvv⟩ := hrows.shape
      rw [List.length_map] at hvv
      subst hvv
      have HCK := Lib.hid (checkR_any _ ((splitS r).map toB) wr hrows hmod)
      rw [bsL_toB] at HCK
      clear hrow hrows hmod hat
      rw [hzz.out] at HCK
      have hgt : ¬ (k : Int) ≤ (s.size : Int) := by omega
      go_wp2_with fail
      refine HCK.out.mono ?_
      rintro e w9 ⟨rfl, hb9⟩
      have hbel9 := hbel.trans (hb9.mono hbel.size)
      have HR9 := Lib.hid (HROWS.out.below hb9)
      by_cases hz0 : zz = 0
      · subst hz0
        go_wp2_with fail
        go_ret2
        exact ⟨.slice av (splitS r).length cv, rfl, by have hre := hres.out; simp only [if_true] at hre; rw [← hre]; exact HR9.out, hbel9⟩
      · have hz' : (zz != 0) = true := by simpa using hz0
        have hre : RES = [] := by rw [← hres.out]; exact if_neg hz0
        clear hres
        subst hre
        go_wp2_with fail
        go_ret2
        exact ⟨.slice none 0 0, rfl, .inl ⟨_, _, rfl, rfl⟩, hbel9⟩

set_option maxHeartbeats 1000000 in
theorem ParseR_any (s : ByteArray) (w : World) (hs : s.size ≤ 1000) :
    Calls Try.prog 14 #[.string s] w fun e w' => ∃ v, e = .returned (.tuple #[v, .int .i64 (parseE s.data.toList)]) ∧ StrsAt w' v (parseA s) ∧ Below w.heap.size w w' := by
  by_cases hsl : ∃ r, s.data.toList = 47 :: r
  · obtain ⟨r, hr⟩ := hsl
    by_cases hr0 : r = []
    · subst hr0
      have HE := Lib.hid (show parseE s.data.toList = 0 by rw [hr]; rfl)
      have HA := Lib.hid (show parseA s = [] by unfold parseA; rw [hr]; rfl)
      have b1 : s.toList.isEmpty = false := by rw [Lib.toList_data, hr]; rfl
      have b2 : (s.toList == [47]) = true := by rw [Lib.toList_data, hr]; rfl
      have h0 : 0 < s.size := by rw [← size_len, hr]; simp
      have b3 : ((s[0].toNat : Int) != 47) = false := by
        have : s[0] = 47 := by
          show s.data.toList[0]'(by rw [size_len]; omega) = 47
          simp only [hr, List.getElem_cons_zero]
        rw [this]; rfl
      rw [HE.out, HA.out]
      clear hr
      go_enter Try.func14, Try.ntmps14
      go_wp2_with fail
      go_ret2
      exact ⟨.slice none 0 0, rfl, .inl ⟨_, _, rfl, rfl⟩, Below.refl _ _⟩
    · exact parseR_some s r w hr hr0 hs
  · have hno : ∀ r, s.data.toList ≠ 47 :: r := fun r h => hsl ⟨r, h⟩
    have HE := Lib.hid (show parseE s.data.toList = 6 by
      cases h : s.data.toList with
      | nil => rfl
      | cons c r => rw [parseE, if_neg]; rintro rfl; exact hno r h)
    have HA := Lib.hid (show parseA s = [] by unfold parseA parseP; rw [HE.out]; rfl)
    rw [HE.out, HA.out]
    by_cases he : s.toList = []
    · have b1 : s.toList.isEmpty = true := by rw [he]; rfl
      clear hsl hno he
      go_enter Try.func14, Try.ntmps14
      go_wp2_with fail
      go_ret2
      exact ⟨.slice none 0 0, rfl, .inl ⟨_, _, rfl, rfl⟩, Below.refl _ _⟩
    · have b1 : s.toList.isEmpty = false := by simpa using he
      have h0 : 0 < s.size := by
        rw [Lib.toList_data] at he
        rw [← size_len]; cases h : s.data.toList with
        | nil => exact absurd h he
        | cons c r => simp
      have b3 : ((s[0].toNat : Int) != 47) = true := by
        rw [bne_iff_ne]; intro e
        have h47 : s[0] = 47 := UInt8.toNat_inj.1 (by show s[0].toNat = 47; omega)
        cases h : s.data.toList with
        | nil => rw [← size_len, h] at h0; simp at h0
        | cons c r =>
          have h2 : s[0] = c := by
            show s.data.toList[0]'(by rw [size_len]; omega) = c
            simp only [h, List.getElem_cons_zero]
          exact hno r (by rw [h, ← h2, h47])
      clear hsl hno he
      go_enter Try.func14, Try.ntmps14
      go_wp2_with fail
      go_ret2
      exact ⟨.slice none 0 0, rfl, .inl ⟨_, _, rfl, rfl⟩, Below.refl _ _⟩
end Go.Proofs.Ytbgfeonlnhlbfaa
