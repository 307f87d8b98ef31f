/- cutQuoted: the quoted form at the beginning of a string. -/
import Derived.Test.YtnmkcohfhomenaaDoorFirstB
namespace Go.Proofs.YtnmkcohfhomenaaDoor
open Go.RowKit

/-- On inside quotes: b has been said, r is left; fuel: more than r has bytes. -/
def scanQ : Nat → List UInt8 → List UInt8 → Option (List UInt8 × List UInt8)
  | 0, _, _ => none
  | _ + 1, _, [] => none
  | f + 1, b, a :: r =>
    if a.toNat = 34 then some (b, r) else if (firstB (a :: r)).2 = 0 then none else scanQ f (b ++ [(firstB (a :: r)).1]) ((a :: r).drop (firstB (a :: r)).2)
def cutQ (l : List UInt8) : Option (List UInt8 × List UInt8) := match l with
  | [] => none
  | a :: r => if a.toNat = 34 then scanQ (r.length + 1) [] r else none
def cutV (o : Option (List UInt8 × List UInt8)) : Value := match o with
  | none => .tuple #[.string ⟨#[]⟩, .string ⟨#[]⟩, .bool false]
  | some (b, r) => .tuple #[.string ⟨b.toArray⟩, .string ⟨r.toArray⟩, .bool true]

theorem scanQ_fuel : ∀ (f g : Nat) (b r : List UInt8), r.length < f → r.length < g → scanQ f b r = scanQ g b r
  | 0, _, _, _, h, _ => by omega
  | _ + 1, 0, _, _, _, h => by omega
  | f + 1, g + 1, b, [], _, _ => rfl
  | f + 1, g + 1, b, a :: r, hf, hg => by
    simp only [scanQ]
    split
    · rfl
    · split
      · rfl
      · refine scanQ_fuel f g _ _ ?_ ?_ <;> (simp only [List.length_drop, List.length_cons] at *; omega)
theorem scanQ_end (f : Nat) (b : List UInt8) : scanQ f b [] = none := by cases f <;> rfl
theorem scanQ_quote (f : Nat) (b r : List UInt8) (a : UInt8) (h : a.toNat = 34) : scanQ (f + 1) b (a :: r) = some (b, r) := by simp [scanQ, h]
theorem scanQ_bad (f : Nat) (b r : List UInt8) (a : UInt8) (h : ¬ a.toNat = 34) (hn : (firstB (a :: r)).2 = 0) : scanQ (f + 1) b (a :: r) = none := by simp [scanQ, h, hn]
theorem scanQ_go (b r : List UInt8) (a : UInt8) (h : ¬ a.toNat = 34) (hn : (firstB (a :: r)).2 ≠ 0) :
    scanQ ((a :: r).length + 1) b (a :: r) = scanQ (((a :: r).drop (firstB (a :: r)).2).length + 1) (b ++ [(firstB (a :: r)).1]) ((a :: r).drop (firstB (a :: r)).2) := by
  rw [scanQ, if_neg h, if_neg hn]
  refine scanQ_fuel _ _ _ _ ?_ ?_ <;> simp only [List.length_drop, List.length_cons] <;> omega
theorem firstB_le (l : List UInt8) : (firstB l).2 ≤ l.length := by
  unfold firstB
  split
  · simp
  · split
    · simp
    · split
      · simp
      · split
        · simp
        · (repeat' split) <;> simp

theorem ext_drop (t : ByteArray) (n : Nat) : (t.extract n t.size).data.toList = t.data.toList.drop n := by
  rw [Lib.extract_data]
  have hl := size_len t
  exact List.take_of_length_le (by rw [List.length_drop]; omega)
theorem ext_tail (t : ByteArray) (a : UInt8) (r : List UInt8) (h : t.data.toList = a :: r) : (t.extract 1 t.size).data.toList = r := by
  rw [ext_drop, h]; rfl
theorem of_list (t : ByteArray) (l : List UInt8) (h : t.data.toList = l) : t = ⟨l.toArray⟩ := by
  subst h; rfl
theorem ownsRow_below {w w' : World} {base : Nat} {e : TypeId} {size : Nat} {v : Value} {n : Nat} {xs : List Value} (h : w.ownsRow base e size v n xs) (hb : Below w.heap.size w w') : w'.ownsRow base e size v n xs := by
  refine ⟨h.1, ?_⟩
  rcases h.2 with h2 | ⟨g, cap, cur, a, b, c, d⟩
  · exact .inl h2
  · exact .inr ⟨g, cap, cur, a, b, by rw [hb.block g (Array.getElem?_eq_some_iff.1 c).1]; exact c, d⟩
theorem cutV_some (b r : List UInt8) (x : ByteArray) (h : x.data.toList = r) : Value.tuple #[.string ⟨b.toArray⟩, .string x, .bool true] = cutV (some (b, r)) := by
  rw [of_list x r h]; rfl
theorem isEmpty_iff (t : ByteArray) : t.toList.isEmpty = t.data.toList.isEmpty := by rw [Lib.toList_data]

theorem firstByte_ex (s : ByteArray) (w : World) (h0 : 0 < s.size) (hE : Env w) :
    Calls Tryd.prog 69 #[.string s] w fun e w' => ∃ (c : UInt8) (n : Nat), e = .returned (.tuple #[.int .u8 c.toNat, .int .i64 n]) ∧ Hid (firstB s.data.toList = (c, n)) ∧ Below w.heap.size w w' := by
  refine (firstByte_any s w h0 hE).mono ?_
  rintro e w' ⟨rfl, hB⟩
  exact ⟨(firstB s.data.toList).1, (firstB s.data.toList).2, rfl, rfl, hB⟩

def strLen : Value → Nat | .string t => t.size | _ => 0

theorem list_ne (t : ByteArray) (h : 0 < t.size) : ∃ r, t.data.toList = t[0] :: r := by
  have h' := head_at t h
  have hl := size_len t
  cases e : t.data.toList with
  | nil => rw [e] at hl; simp at hl; omega
  | cons a r => rw [e] at h'; exact ⟨r, by rw [← h']; rfl⟩

theorem drew_row {w : World} {base : Nat} {v : Value} {l : List UInt8} (h : w.ownsRow base 5 1 v l.length (Lib.byteCells l)) :
    (convert 38 9 v).run Tryd.prog w.drew = .ok (.string ⟨l.toArray⟩) w.drew := str_of_row h.drew

/-- What is held between two rounds. -/
def CutRel (s : ByteArray) (w : World) (vr vb : Value) (wr : World) : Prop :=
  ∃ (t : ByteArray) (b : List UInt8), vr = .string t ∧ wr.ownsRow w.heap.size 5 1 vb b.length (Lib.byteCells b) ∧ Below w.heap.size w wr ∧ cutQ s.data.toList = scanQ (t.data.toList.length + 1) b t.data.toList ∧ b.length + t.size ≤ s.size

set_option maxHeartbeats 2000000 in
set_option maxRecDepth 100000 in
theorem cutQuoted_yes (s : ByteArray) (w : World) (hE : Env w) (hs : s.size ≤ 70368744177664) (h0 : Lib.hasPrefix s.data.toList [34] = true) :
    Calls Tryd.prog 44 #[.string s] w fun e w' => e = .returned (cutV (cutQ s.data.toList)) ∧ Below w.heap.size w w' := by
  have hn := hE.nine
  obtain ⟨i0, hi, hz0, hz1, hz2⟩ := info_parts Tryd.infoByte
  obtain ⟨r0, hr0⟩ : ∃ r0, s.data.toList = 34 :: r0 := by
    cases hl : s.data.toList with
    | nil => rw [hl] at h0; simp [Lib.hasPrefix] at h0
    | cons a r => rw [hl] at h0; simp [Lib.hasPrefix, List.isPrefixOf] at h0; exact ⟨r, by rw [h0]⟩
  have hsz : 0 < s.size := by rw [← size_len, hr0]; simp
  have hL : r0.length + 1 = s.size := by rw [← size_len, hr0]; simp
  have hx : (s.extract 1 s.size).data.toList = r0 := ext_tail s 34 r0 hr0
  have HR : Hid (CutRel s w (.string (s.extract 1 s.size)) (.slice none 0 0) w) := Lib.hid
    ⟨_, [], rfl, World.ownsRow_nil _ _ _ _, Below.refl _ _, by rw [hx, hr0]; simp [cutQ], by have := size_len (s.extract 1 s.size); rw [hx] at this; rw [← this]; simp only [List.length_nil]; omega⟩
  clear hr0 hx hL
  go_enter Tryd.func44, Tryd.ntmps44
  go_wp2_with (go_at_call 68; refine (Tryd.strings_HasPrefix _ _ _).mono ?_; rintro e w' ⟨rfl, rfl⟩)
  go_loopw [3, 5] (fun vr vb wr => Hid (CutRel s w' vr vb wr)) (fun vr _ _ => strLen vr)
  case atStart => exact HR
  case round =>
    obtain ⟨t, b, rfl, hrow, hbel, hq, hlen⟩ := hrel.out
    have HQ := Lib.hid hq
    clear hrel hq
    have hz := hbel.size
    have hE2 := hE.below hbel hn
    by_cases ht : 0 < t.size
    · have hne := isEmpty_false t ht
      obtain ⟨r, hr⟩ := list_ne t ht
      have HT := Lib.hid hr
      clear hr
      by_cases h34 : (t[0].toNat : Int) = 34
      · have e34 : ((t[0].toNat : Int) != 34) = false := by simpa using h34
        have HF : Hid (cutQ s.data.toList = some (b, r)) := Lib.hid (by rw [HQ.out, HT.out, scanQ_quote _ _ _ _ (by omega)])
        have HX : Hid ((t.extract 1 t.size).data.toList = r) := Lib.hid (ext_tail t _ r HT.out)
        have hcv := str_of_row hrow
        have hcv2 := drew_row hrow
        clear h34
        have ht1 : (1 : Int) ≤ (t.size : Int) := by omega
        go_wp2
        go_region
        all_goals go_wp2
        all_goals go_ret3
        all_goals exact ⟨congrArg Ending.returned (by rw [HF.out]; exact cutV_some b r _ HX.out), hbel.drew⟩
      · have e34 : ((t[0].toNat : Int) != 34) = true := by simpa using h34
        have h34' : ¬ t[0].toNat = 34 := by omega
        clear h34
        go_wp2_with fail
        refine (firstByte_ex _ _ ht hE2).mono ?_
        rintro e w2 ⟨c, n, rfl, hfb, hbel2⟩
        by_cases hn0 : n = 0
        · subst hn0
          have HF : Hid (cutQ s.data.toList = none) := Lib.hid (by rw [HQ.out, HT.out, scanQ_bad _ _ _ _ h34']; rw [← HT.out, hfb.out])
          go_wp2
          go_ret3
          exact ⟨congrArg Ending.returned (by rw [HF.out]; rfl), hbel.trans (hbel2.mono hz)⟩
        · have e0 : ((n : Int) == 0) = false := by simp; omega
          have hle : n ≤ t.size := by have := firstB_le t.data.toList; rw [hfb.out, size_len] at this; exact this
          have hrow2 := ownsRow_below hrow hbel2
          have HG : Hid (cutQ s.data.toList = scanQ (t.data.toList.drop n).length.succ (b ++ [c]) (t.data.toList.drop n)) := Lib.hid (by
            have hg := scanQ_go b r t[0] h34'; rw [← HT.out, hfb.out] at hg
            rw [HQ.out]; exact hg hn0)
          have hlb : n ≤ t.size := hle
          have hm1 : b.length + 1 ≤ maxLen := by unfold maxLen; omega
          have hsz2 := hbel2.size
          have hc : (c.toNat : Int) ≤ 255 := by have := c.toNat_lt; omega
          go_wp2_with (at_builtin; refine wpList_append_own _ rfl _ _ 38 rfl w'.heap.size 5 i0 (.int .u8 0) 1 1 Tryd.underlying38 hi hz0 hz1 hz2 rfl (by decide) _ _ _ rfl (hrow2.alloc _) ⟨w2.heap.size, 0, none⟩ 1 1 [.int .u8 c.toNat] rfl rfl (cell_one_new _ _ _) (by simp [Value.oneCell']) hm1 (by omega) (by simp; omega) ?_; intro v' w3 hown3 hgrow3 _)
          have hxl : (t.extract n t.size).size = t.size - n := by rw [← size_len, ext_drop, List.length_drop, size_len]
          refine ⟨Lib.hid ⟨_, b ++ [c], rfl, ?_, ?_, ?_, ?_⟩, ?_⟩
          · rw [byteCells_append, List.length_append]; exact hown3
          · exact ((hbel.trans (hbel2.mono hz)).alloc (by omega) _).grown hgrow3 (by simp; omega) (fun k e => (hrow2.lt k e).1)
          · rw [ext_drop]; exact HG.out
          · rw [hxl, List.length_append, List.length_singleton]; omega
          · show (t.extract n t.size).size < t.size
            rw [hxl]; omega
    · have hem := empty_of t ht
      subst hem
      have HF : Hid (cutQ s.data.toList = none) := Lib.hid (by rw [HQ.out]; rfl)
      go_wp2
      go_ret3
      exact ⟨congrArg Ending.returned (by rw [HF.out]; rfl), hbel⟩
theorem cutQuoted_any (s : ByteArray) (w : World) (hE : Env w) (hs : s.size ≤ 70368744177664) :
    Calls Tryd.prog 44 #[.string s] w fun e w' => e = .returned (cutV (cutQ s.data.toList)) ∧ Below w.heap.size w w' := by
  by_cases h0 : Lib.hasPrefix s.data.toList [34] = true
  · exact cutQuoted_yes s w hE hs h0
  · have h1 : Lib.hasPrefix s.data.toList [34] = false := by simpa using h0
    have HF : Hid (cutQ s.data.toList = none) := Lib.hid (by
      cases hl : s.data.toList with
      | nil => rfl
      | cons a r =>
        rw [hl] at h1
        have : ¬ a.toNat = 34 := by
          intro e
          have : a = 34 := UInt8.toNat_inj.1 e
          rw [this] at h1; simp [Lib.hasPrefix, List.isPrefixOf] at h1
        simp [cutQ, this])
    go_enter Tryd.func44, Tryd.ntmps44
    go_wp2_with (go_at_call 68; refine (Tryd.strings_HasPrefix _ _ _).mono ?_; rintro e w' ⟨rfl, rfl⟩)
    go_ret3
    exact ⟨congrArg Ending.returned (by rw [HF.out]; rfl), Below.refl _ _⟩

def unqV (o : Option (List UInt8 × List UInt8)) : Value := match o with
  | some (b, []) => .tuple #[.string ⟨b.toArray⟩, .int .i64 0]
  | _ => .tuple #[.string ⟨#[]⟩, .int .i64 6]

theorem unquote_any (s : ByteArray) (w : World) (hE : Env w) (hs : s.size ≤ 70368744177664) :
    Calls Tryd.prog 19 #[.string s] w fun e w' => e = .returned (unqV (cutQ s.data.toList)) ∧ Below w.heap.size w w' := by
  obtain ⟨o, ho⟩ : ∃ o, cutQ s.data.toList = o := ⟨_, rfl⟩
  have hc := cutQuoted_any s w hE hs
  rw [ho] at hc ⊢
  clear ho
  match o with
  | none =>
    go_enter Tryd.func19, Tryd.ntmps19
    go_wp2_with fail
    refine hc.mono ?_
    rintro e w' ⟨rfl, hB⟩
    unfold cutV
    go_wp2
    go_ret2
    exact ⟨rfl, hB⟩
  | some (b, []) =>
    go_enter Tryd.func19, Tryd.ntmps19
    go_wp2_with fail
    refine hc.mono ?_
    rintro e w' ⟨rfl, hB⟩
    unfold cutV
    go_wp2
    go_ret2
    exact ⟨rfl, hB⟩
  | some (b, a :: r) =>
    go_enter Tryd.func19, Tryd.ntmps19
    go_wp2_with fail
    refine hc.mono ?_
    rintro e w' ⟨rfl, hB⟩
    unfold cutV
    go_wp2
    go_ret2
    exact ⟨rfl, hB⟩
end Go.Proofs.YtnmkcohfhomenaaDoor
