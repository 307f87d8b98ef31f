/- Print: the builder. -/
import Derived.Test.YtbgfeonlnhlbfaaFresh
import Derived.Lib.AppendStr
namespace Go.Proofs.Ytbgfeonlnhlbfaa
open Go.RowKit

theorem Try.infoB : (Try.prog.info? 64).map (fun i => i.size) = some 2 := by kernel_rfl
theorem Try.infoByte : (Try.prog.info? 5).map (fun i => (i.zero, i.size, i.bytes)) = some (some (.int .u8 0), 1, 1) := by kernel_rfl

set_option maxHeartbeats 1000000 in
set_option maxRecDepth 100000 in
/-- copyCheck at a builder that has been used: nothing turns. -/
theorem copyCheck_used (b : Nat) (w : World) (h0 : w.cell? ⟨b, 0, none⟩ = some (.pointer (some ⟨b, 0, none⟩))) :
    Calls Try.prog 59 #[.pointer (some ⟨b, 0, none⟩)] w fun e w' => e = .returned (.tuple #[]) ∧ w' = w := by
  obtain ⟨j, hj, _⟩ := Option.map_eq_some_iff.1 Try.infoB
  go_enter Try.func59, Try.ntmps59
  go_wp2
  rw [Lib.run_neq_ptr_same w _ Try.underlying61 hj]
  go_wp2
  go_end0
  exact ⟨rfl, rfl⟩
set_option maxHeartbeats 1000000 in
set_option maxRecDepth 100000 in
/-- copyCheck at a fresh builder: it stores its own address. -/
theorem copyCheck_fresh (b : Nat) (w : World) (h0 : w.cell? ⟨b, 0, none⟩ = some (.pointer none)) (hsh : w.shape? b = some (64, 2)) (hfz : w.frozen? ⟨b, 0, none⟩ = false) :
    Calls Try.prog 59 #[.pointer (some ⟨b, 0, none⟩)] w fun e w' => e = .returned (.tuple #[]) ∧ w' = w.setCell ⟨b, 0, none⟩ (.pointer (some ⟨b, 0, none⟩)) := by
  obtain ⟨j, hj, hjs⟩ := Option.map_eq_some_iff.1 Try.infoB
  go_enter Try.func59, Try.ntmps59
  go_wp2
  rw [Lib.run_to_unsafe w ⟨b, 0, none⟩ Try.underlying61 Try.underlying92 hj (by rw [hjs]; decide) hsh (Nat.zero_lt_succ 1)]
  simp only [Result.andThen]
  rw [Oper.upon_value]
  go_wp2
  rw [run_callFunc_extern Try.func68 (by kernel_rfl) (by kernel_rfl) (by kernel_rfl) (e := Extern.AbiNoEscape.same) (by kernel_rfl)]
  rw [Lib.run_noEscape]
  simp only [Result.andThen]
  rw [Oper.upon_value]
  go_wp2
  rw [Lib.run_from_unsafe w ⟨b, 0, none⟩ Try.underlying92 Try.underlying61 hj hsh (by kernel_rfl)]
  simp only [Result.andThen]
  rw [Oper.upon_value]
  go_wp2
  go_end0
  exact ⟨rfl, rfl⟩
theorem copyCheck_any (B b : Nat) (bs : List Value) (w : World) (h : Lib.IsBuilder 64 5 B b bs w) :
    Calls Try.prog 59 #[.pointer (some ⟨b, 0, none⟩)] w fun e w' => e = .returned (.tuple #[]) ∧ (Lib.BuilderAt 64 5 B b (.pointer (some ⟨b, 0, none⟩)) bs w' ∧ Below B w w') := by
  rcases h with h | h
  · refine (copyCheck_fresh b w h.cell0 h.shape h.frozen0).mono ?_
    rintro e w' ⟨rfl, rfl⟩
    exact ⟨rfl, h.used _, (Below.refl B w).setCell (p := ⟨b, 0, none⟩) h.1 _⟩
  · refine (copyCheck_used b w h.cell0).mono ?_
    rintro e w' ⟨rfl, rfl⟩
    exact ⟨rfl, h, Below.refl B _⟩

set_option maxHeartbeats 2000000 in
set_option maxRecDepth 100000 in
theorem writeString_any (B b : Nat) (bs : List Value) (s : ByteArray) (w : World) (h : Lib.IsBuilder 64 5 B b bs w) (hlen : bs.length + s.size ≤ 140737488355328) (hBw : B ≤ w.heap.size) :
    Calls Try.prog 42 #[.pointer (some ⟨b, 0, none⟩), .string s] w fun e w' => e = .returned (.tuple #[.int .i64 s.size, .nilIface]) ∧ (Lib.BuilderAt 64 5 B b (.pointer (some ⟨b, 0, none⟩)) (bs ++ Lib.strCells s) w' ∧ Below B w w') := by
  obtain ⟨i0, hi, hz0, hz1, hz2⟩ := info_parts Try.infoByte
  have HCC := Lib.hid (copyCheck_any B b bs w h)
  clear h
  go_enter Try.func42, Try.ntmps42
  go_wp2_with fail
  refine HCC.out.mono ?_
  rintro e w1 ⟨rfl, h1, hb1⟩
  obtain ⟨hB, v, hbk, hown, hne⟩ := h1
  have c0 : w1.cell? ⟨b, 0, none⟩ = some (.pointer (some ⟨b, 0, none⟩)) := by rw [Lib.cell_of_heap hbk]; rfl
  have c1 : w1.cell? ⟨b, 1, none⟩ = some v := by rw [Lib.cell_of_heap hbk]; rfl
  go_wp2_with (at_builtin; refine Lib.wpList_append_own_string _ rfl _ _ 62 9 rfl B 5 i0 Try.underlying62 Try.underlying9 hi hz0 hz1 hz2 _ _ _ rfl hown s rfl ?c3 ?c4 ?c5 ?_)
  case c3 => unfold maxLen; omega
  case c4 => omega
  case c5 => have := hb1.size; omega
  intro v' w2 hown' hgrow _
  have hlt : b < w1.heap.size := by
    rcases Nat.lt_or_ge b w1.heap.size with h' | h'
    · exact h'
    · simp [Array.getElem?_eq_none h'] at hbk
  have hb2 : w2.heap[b]? = some (.cells #[.pointer (some ⟨b, 0, none⟩), v] 64 (0, 0)) := by
    rw [hgrow.block b hlt (fun e => hne e.symm)]
    exact hbk
  have d0 : w2.cell? ⟨b, 0, none⟩ = some (.pointer (some ⟨b, 0, none⟩)) := by rw [Lib.cell_of_heap hb2]; rfl
  have d1 : w2.cell? ⟨b, 1, none⟩ = some v := by rw [Lib.cell_of_heap hb2]; rfl
  have f1 : w2.frozen? ⟨b, 1, none⟩ = false := Lib.frozen_of_heap hb2 1
  obtain ⟨ao, n', cap, rfl⟩ : ∃ ao n' cap, v' = .slice ao n' cap := by
    rcases hown'.2 with ⟨hv, _⟩ | ⟨g, cap, cur, hv, _⟩
    · exact ⟨_, _, _, hv⟩
    · exact ⟨_, _, _, hv⟩
  go_wp2
  go_ret2
  refine ⟨rfl, ?_, ?_⟩
  · exact Lib.BuilderAt.put (T := 64) (e := 5) hB hb2 (bs' := bs ++ Lib.strCells s) (by simpa [Lib.strCells_length] using hown') (by decide)
  · exact (hb1.grown hgrow (by have := hb1.size; omega) (fun k hk => (hown.lt k hk).1)).setCell (p := ⟨b, 1, none⟩) hB _

/-! ### Print -/
theorem textL_cons (p : List Bs) (h : p ≠ []) : textL p = joinS p := by unfold textL; rw [if_neg h]
theorem joinS_snoc (p : List Bs) (s : Bs) : joinS (p ++ [s]) = joinS p ++ 47 :: s := by
  induction p with
  | nil => simp [joinS]
  | cons a t ih => simp [joinS, ih]
theorem joinS_len (p : List Bs) (k : Nat) (h : ∀ s ∈ p, s.length ≤ k) : (joinS p).length ≤ p.length * (k + 1) := by
  induction p with
  | nil => simp [joinS]
  | cons a t ih =>
    have h1 := h a (by simp)
    have h2 := ih (fun s hs => h s (by simp [hs]))
    simp only [joinS, List.length_cons, List.length_append]
    rw [Nat.add_mul]; omega

set_option maxHeartbeats 2000000 in
set_option maxRecDepth 100000 in
theorem Print_any (v1 : Value) (ps : List ByteArray) (w : World) (h1 : StrsAt w v1 ps) (m1 : Modest ps) :
    Calls Try.prog 15 #[v1] w fun e w' => e = .returned (.tuple #[.string ⟨(printT (bsL ps)).toArray⟩, .int .i64 (checkE (bsL ps))]) ∧ Below w.heap.size w w' := by
  have HC := Lib.hid (check_any v1 ps w h1 m1)
  have H1 := Lib.hid h1
  by_cases h0 : checkE (bsL ps) = 0
  · have hz := checkE_zero.1 h0
    have hl8 : ps.length ≤ 8 := by have := hz.1; simpa using this
    have hsz : ∀ s ∈ ps, s.size ≤ 24 := fun s hs => by have := (nameE_ok (hz.2 _ (List.mem_map.2 ⟨s, hs, rfl⟩))).2.1; rwa [size_len] at this
    rw [h0] at HC
    have HP := Lib.hid (show printT (bsL ps) = textL (bsL ps) by unfold printT; rw [if_pos h0])
    rw [HP.out, h0]
    rcases h1 with ⟨a1, c1, rfl, rfl⟩ | ⟨b1, o1, c1, rfl, hc1, hb1', hcell⟩
    · clear h0 hz m1
      go_enter Try.func15, Try.ntmps15
      go_wp2_with fail
      refine HC.out.mono ?_
      rintro e w1 ⟨rfl, hb1⟩
      go_wp2_with fail
      go_ret2
      exact ⟨rfl, hb1⟩
    · by_cases he : ps = []
      · subst he
        clear h0 hz m1 hcell
        go_enter Try.func15, Try.ntmps15
        go_wp2_with fail
        refine HC.out.mono ?_
        rintro e w1 ⟨rfl, hb1⟩
        go_wp2_with fail
        go_ret2
        exact ⟨rfl, hb1⟩
      · have HT := Lib.hid (textL_cons (bsL ps) (by simpa using he))
        rw [HT.out]
        have hne : 0 < ps.length := by cases ps with | nil => exact absurd rfl he | cons a r => simp
        have hne' : ((ps.length : Int) == 0) = false := by simp; exact he
        have HCell := Lib.hid hcell
        have HSZ := Lib.hid hsz
        clear h0 hz m1 hcell he hsz
        go_enter Try.func15, Try.ntmps15
        go_wp2_with fail
        refine HC.out.mono ?_
        rintro e w1 ⟨rfl, hb1⟩
        have hs1 := hb1.size
        go_wp2_with fail
        obtain ⟨w2, hw2⟩ : ∃ w2, w1.alloc (.cells #[.pointer none, .slice none 0 0] 64) = w2 := ⟨_, rfl⟩
        have hs2 : w2.heap.size = w1.heap.size + 1 := by rw [← hw2]; simp
        have hb2 : Below w.heap.size w w2 := by rw [← hw2]; exact hb1.alloc hs1 _
        have HB : Hid (Lib.IsBuilder 64 5 w1.heap.size w1.heap.size (Lib.byteCells (joinS (bsL (ps.take 0)))) w2) := Lib.hid (.inl ⟨Nat.le_refl _, .slice none 0 0, by rw [← hw2]; exact World.alloc_heap_new w1 _, by
          show World.ownsRow _ _ _ _ _ 0 []; exact World.ownsRow_nil _ _ _ _, by simp [Value.ownBlock]⟩)
        try rw [hw2]
        clear hw2
        go_loopw [18] (fun i wr => ∃ k : Nat, k ≤ ps.length ∧ i = .int .i64 k ∧ Below w.heap.size w wr ∧ w1.heap.size + 1 ≤ wr.heap.size ∧ Hid (Lib.IsBuilder 64 5 w1.heap.size w1.heap.size (Lib.byteCells (joinS (bsL (ps.take k)))) wr)) (fun i _ => ps.length - (intOf i).toNat)
        case atStart => exact ⟨0, Nat.zero_le _, rfl, hb2, by omega, HB⟩
        case round =>
          obtain ⟨k, hk, rfl, hbel, hsz, hB⟩ := hrel
          by_cases hlt : k < ps.length
          · have hc0 := (hbel.cell (p := ⟨b1, o1 + k, none⟩) hb1').trans (HCell.out k hlt)
            have hsk := HSZ.out ps[k] (List.getElem_mem hlt)
            have hjl : (Lib.byteCells (joinS (bsL (ps.take k)))).length ≤ 1000 := by
              rw [Lib.byteCells_length]
              have h3 := joinS_len (bsL (ps.take k)) 24 (fun s hs => by
                obtain ⟨t, ht, rfl⟩ := List.mem_map.1 hs
                rw [size_len]; exact HSZ.out t (List.mem_of_mem_take ht))
              rw [List.length_map, List.length_take] at h3
              omega
            have HNX : Hid (Lib.byteCells (joinS (bsL (ps.take k))) ++ Lib.strCells ⟨#[47]⟩ ++ Lib.strCells ps[k] = Lib.byteCells (joinS (bsL (ps.take (k + 1))))) := Lib.hid (by
              rw [List.take_succ_eq_append_getElem hlt]
              show _ = Lib.byteCells (joinS (List.map _ (ps.take k ++ [ps[k]])))
              rw [List.map_append]
              show _ = Lib.byteCells (joinS (bsL (ps.take k) ++ [ps[k].data.toList]))
              rw [joinS_snoc]
              simp [Lib.byteCells, Lib.strCells])
            have HS := Lib.hid (show (Lib.strCells ⟨#[47]⟩).length = 1 from rfl)
            generalize ps[k] = s at *
            go_wp2_with fail
            refine (writeString_any w1.heap.size w1.heap.size _ ⟨#[47]⟩ wr hB.out (by have : (⟨#[47]⟩ : ByteArray).size = 1 := rfl; omega) (by omega)).mono ?_
            rintro e w4 ⟨rfl, hB4, hb4⟩
            have HB4 := Lib.hid hB4
            have hs4 := hb4.size
            have hbel4 := hbel.trans (hb4.mono (by omega))
            clear hB4
            go_wp2_with fail
            refine (writeString_any w1.heap.size w1.heap.size _ s w4 (.inr HB4.out) (by rw [List.length_append, HS.out]; omega) (by omega)).mono ?_
            rintro e w5 ⟨rfl, hB5, hb5⟩
            have HB5 : Hid (Lib.IsBuilder 64 5 w1.heap.size w1.heap.size (Lib.byteCells (joinS (bsL (ps.take (k + 1))))) w5) := Lib.hid (.inr (by rw [← HNX.out]; exact hB5))
            have hs5 := hb5.size
            have hbel5 := hbel4.trans (hb5.mono (by omega))
            have hsz5 : w1.heap.size + 1 ≤ w5.heap.size := by omega
            clear hB5
            go_wp2_with fail
            go_roundw
            case rel => exact ⟨k + 1, by omega, by go_num, hbel5, hsz5, HB5⟩
            case measure => simp [intOf]; omega
          · obtain rfl : k = ps.length := by omega
            rw [List.take_length] at hB
            go_wp2_with fail
            refine (Try.Builder_String_any w1.heap.size w1.heap.size (joinS (bsL ps)) wr hB.out (by omega)).mono ?_
            rintro e w6 ⟨rfl, h6⟩
            have hbb := hbel.trans (h6.mono (by omega))
            go_wp2_with fail
            go_ret2
            exact ⟨rfl, hbb⟩
  · have HP := Lib.hid (show printT (bsL ps) = [] by unfold printT; rw [if_neg h0])
    obtain ⟨a1, c1, rfl⟩ := h1.shape
    rw [HP.out]
    obtain ⟨z, hz⟩ : ∃ z, z = checkE (bsL ps) := ⟨_, rfl⟩
    rw [← hz] at HC h0 ⊢
    have hz' : (z != 0) = true := by simpa using h0
    clear hz h1 m1
    go_enter Try.func15, Try.ntmps15
    go_wp2_with fail
    refine HC.out.mono ?_
    rintro e w1 ⟨rfl, hb1⟩
    go_wp2_with fail
    go_ret2
    exact ⟨rfl, hb1⟩
end Go.Proofs.Ytbgfeonlnhlbfaa
