/- slices.Clone of sectors, of writes. -/
import Derived.Test.YtbaibmndmcdfdaaDoorDCrash
namespace Go.Proofs.YtbaibmndmcdfdaaDoor.D
open Go.RowKit Go.MapKept
noncomputable def appS (ty : TypeId) (xs : Array Value) : Sem Value := Builtin.append_ #[48, 48] ty xs
theorem appS_eq (ty : TypeId) (xs : Array Value) : Builtin.append_ #[48, 48] ty xs = appS ty xs := rfl
attribute [local go_sem ↓] appW_eq appS_eq
set_option maxRecDepth 100000

theorem isNone_slice {a : Option Addr} {n c : Nat} (h : a = none) : Value.slice a n c = .slice none n c := by rw [h]
/-- 'append(s[:0:0], x...)': a copy in new memory. -/
theorem clone_run {t ty e : TypeId} {i : TypeInfo} {z : Value} {sz bytes : Nat} (ht : Tryd.prog.underlying t = some (.slice e)) (hi : Tryd.prog.info? e = some i) (hz : i.zero = some z) (hsize : i.size = sz) (hby : i.bytes = bytes) (hzs : z.cells.size = sz) (hsz : 0 < sz)
    {w : World} {v : Value} {L : List (List Value)} (hv : ElemsAt sz w v L) (hl : ∀ x ∈ L, x.length = sz) (h1 : ∀ u ∈ L.flatten, u.oneCell' = true) (hL : L.length ≤ 100000) (hb : bytes ≤ 1000) :
    ∃ g c w', (Builtin.append_ #[t, t] ty #[.slice (some ⟨w.heap.size, 0, none⟩) 0 0, v]).run Tryd.prog (w.alloc (.cells #[] e (0, 0))) = .ok (.slice (some ⟨g, 0, none⟩) L.length c) w' ∧ w'.ownsRow w.heap.size e sz (.slice (some ⟨g, 0, none⟩) L.length c) L.length L.flatten ∧ Below w.heap.size w w' := by
  have hb0 : Below w.heap.size w (w.alloc (.cells #[] e (0, 0))) := (Below.refl _ _).alloc (Nat.le_refl _) _
  have h0 : (w.alloc (.cells #[] e (0, 0))).ownsRow w.heap.size e sz (.slice (some ⟨w.heap.size, 0, none⟩) 0 0) 0 [] := ⟨by simp, .inr ⟨w.heap.size, 0, #[], rfl, Nat.le_refl _, heap_alloc_new w _, Nat.le_refl _, by unfold maxLen; omega, by simp, by simp⟩⟩
  rcases hv with ⟨a, c, rfl, rfl⟩ | ⟨g, o, c, rfl, hg, hc⟩
  · have hs : Src Tryd.prog i.size t (.slice a 0 c) 0 [] (w.alloc (.cells #[] e (0, 0))) := by
      cases a with
      | none => exact Src.ofNil _ ht c
      | some ad => exact Src.ofSlice _ ht ad 0 c [] (by simp) (fun j u h => by simp at h) (fun u h => by cases h)
    exact ⟨w.heap.size, 0, _, run_append_nothing _ _ _ ty _ i ht hi _ 0 0 (Nat.le_refl _) _ hs, h0, hb0⟩
  · have hmul : (0 + L.length) * bytes ≤ 140737488355328 := by
      rw [Nat.zero_add]
      have := Nat.mul_le_mul hL hb
      omega
    obtain ⟨v', w', hr, ho, hgr, hnil, hat⟩ := run_append_own_at (P := Tryd.prog) (w.alloc (.cells #[] e (0, 0))) w.heap.size t ty e i z sz bytes ht hi hz hsize hby hzs hsz _ 0 [] h0 ⟨g, o, none⟩ L.length c L.flatten (flat_len L hl)
      (fun j u hj => by
        have hjl : j < L.length * sz := by
          rcases Nat.lt_or_ge j L.flatten.length with hh | hh
          · rwa [flat_len L hl] at hh
          · rw [List.getElem?_eq_none hh] at hj; cases hj
        have hdm := Nat.div_add_mod j sz
        have hk : j / sz < L.length := (Nat.div_lt_iff_lt_mul hsz).2 hjl
        have hr : j % sz < sz := Nat.mod_lt _ hsz
        have hel : L[j / sz]? = some L[j / sz] := List.getElem?_eq_getElem hk
        have hxl : L[j / sz].length = sz := hl _ (List.getElem_mem hk)
        have hfl := flat_get L hl (j / sz) L[j / sz] hel (j % sz) (L[j / sz][j % sz]'(by omega)) (List.getElem?_eq_getElem _)
        rw [Nat.mul_comm, hdm, hj] at hfl
        injection hfl with hfl
        have := hc (j / sz) L[j / sz] hel (j % sz) (L[j / sz][j % sz]'(by omega)) (List.getElem?_eq_getElem _)
        rw [addr_add0, hb0.cell (p := ⟨g, o + j, none⟩) hg, hfl, show o + j = o + j / sz * sz + j % sz from by rw [Nat.add_assoc, Nat.mul_comm, hdm]]
        exact this) h1 (by unfold maxLen; omega) hmul (by simp)
    rw [Nat.zero_add, List.nil_append] at ho
    rcases ho.2 with ⟨hv0, h00⟩ | ⟨g', c', cur, rfl, _⟩
    · rw [hv0] at hnil; have := (hnil.1 rfl).1; cases this
    · exact ⟨g', c', w', hr, ho, hb0.grown hgr (by simp) (fun k e => by simp [Value.ownBlock] at e; omega)⟩
theorem secs_one (L : List Sec) : ∀ u ∈ secC L, u.oneCell' = true := by
  intro u hu
  obtain ⟨l, hl, hu⟩ := List.mem_flatten.1 hu
  obtain ⟨s, _, rfl⟩ := List.mem_map.1 hl
  exact s.one u hu
theorem wrs_one (L : List Wr) : ∀ u ∈ wrC L, u.oneCell' = true := by
  intro u hu
  obtain ⟨l, hl, hu⟩ := List.mem_flatten.1 hu
  obtain ⟨s, _, rfl⟩ := List.mem_map.1 hl
  exact s.one u hu

theorem cloneS_any {w : World} {v : Value} {L : List Sec} (hv : SecsAt w v L) (hL : L.length ≤ 100000) :
    Calls Tryd.prog 43 #[v] w fun e w' => ∃ v', e = .returned v' ∧ w'.ownsRow w.heap.size 27 128 v' L.length (secC L) ∧ Below w.heap.size w w' := by
  obtain ⟨a, c, hav⟩ := hv.val
  rw [List.length_map] at hav
  subst hav
  obtain ⟨i, hi, hz0, hz1, hz2⟩ := info_parts Tryd.infoSec
  obtain ⟨g, c', w', hr, ho, hb⟩ := clone_run (ty := 48) Tryd.underlying48 hi hz0 hz1 hz2 (by show Sec.zero.A.size = 128; exact Sec.A_size _) (by decide) hv (secs_len L) (secs_one L) (by rw [List.length_map]; exact hL) (by decide)
  rw [List.length_map] at hr ho
  have hr2 : (appS 48 #[.slice (some ⟨w.heap.size, 0, none⟩) 0 0, .slice a L.length c]).run Tryd.prog (w.alloc (.cells #[] 27 (0, 0))) = .ok (.slice (some ⟨g, 0, none⟩) L.length c') w' := hr
  have hq := Lib.run_eql_slice_nil (P := Tryd.prog) w 48 27 a L.length c 0 0 Tryd.underlying48
  have HO := Lib.hid ho
  have HB := Lib.hid hb
  have HV := Lib.hid hv
  clear hr ho hb hv
  cases a with
  | none =>
    have h0 : L = [] := by
      rcases HV.out with ⟨_, _, _, h⟩ | ⟨_, _, _, h, _⟩
      · simpa using h
      · cases h
    subst h0
    rw [List.length_nil] at *
    clear HV HO hr2
    go_enter Tryd.func43, Tryd.ntmps43
    go_wp2
    go_ret
    exact ⟨_, rfl, World.ownsRow_nil _ _ _ _, Below.refl _ _⟩
  | some p =>
    go_enter Tryd.func43, Tryd.ntmps43
    go_wp2
    go_ret
    exact ⟨_, rfl, HO.out, HB.out⟩
theorem cloneW_any {w : World} {v : Value} {L : List Wr} (hv : WrsAt w v L) (hL : L.length ≤ 100000) :
    Calls Tryd.prog 44 #[v] w fun e w' => ∃ v', e = .returned v' ∧ w'.ownsRow w.heap.size 95 129 v' L.length (wrC L) ∧ Below w.heap.size w w' := by
  obtain ⟨a, c, hav⟩ := hv.val
  rw [List.length_map] at hav
  subst hav
  obtain ⟨i, hi, hz0, hz1, hz2⟩ := info_parts Tryd.infoWr
  obtain ⟨g, c', w', hr, ho, hb⟩ := clone_run (ty := 49) Tryd.underlying49 hi hz0 hz1 hz2 (by show (Wr.mk 0 Sec.zero).A.size = 129; exact Wr.A_size _) (by decide) hv (wrs_len L) (wrs_one L) (by rw [List.length_map]; exact hL) (by decide)
  rw [List.length_map] at hr ho
  have hr2 : (appW 49 #[.slice (some ⟨w.heap.size, 0, none⟩) 0 0, .slice a L.length c]).run Tryd.prog (w.alloc (.cells #[] 95 (0, 0))) = .ok (.slice (some ⟨g, 0, none⟩) L.length c') w' := hr
  have hq := Lib.run_eql_slice_nil (P := Tryd.prog) w 49 95 a L.length c 0 0 Tryd.underlying49
  have HO := Lib.hid ho
  have HB := Lib.hid hb
  have HV := Lib.hid hv
  clear hr ho hb hv
  cases a with
  | none =>
    have h0 : L = [] := by
      rcases HV.out with ⟨_, _, _, h⟩ | ⟨_, _, _, h, _⟩
      · simpa using h
      · cases h
    subst h0
    rw [List.length_nil] at *
    clear HV HO hr2
    go_enter Tryd.func44, Tryd.ntmps44
    go_wp2
    go_ret
    exact ⟨_, rfl, World.ownsRow_nil _ _ _ _, Below.refl _ _⟩
  | some p =>
    go_enter Tryd.func44, Tryd.ntmps44
    go_wp2
    go_ret
    exact ⟨_, rfl, HO.out, HB.out⟩
end Go.Proofs.YtbaibmndmcdfdaaDoor.D
