/- Frames and their sectors as lists of bytes; Seal and Open; what is sealed is opened; bursts. Plain words. -/
import Derived.Test.YtbaibmndmcdfdaaDoorValB
import Derived.Test.YtbaibmndmcdfdaaDoorDVal
namespace Go.Proofs.YtbaibmndmcdfdaaDoor.F
open D (Sec)

/-! ### numbers, the lowest byte first -/
def numL : List UInt8 → Nat
  | [] => 0
  | c :: l => c.toNat + 256 * numL l
theorem numV_numL : ∀ l : List UInt8, numV l = numL l
  | [] => rfl
  | c :: l => by
    have h := split_pow 8 (c.toNat + 256 * numL l)
    have hc := c.toNat_lt
    rw [show (c.toNat + 256 * numL l) / 2 ^ 8 = numL l from by omega, show (c.toNat + 256 * numL l) % 2 ^ 8 = c.toNat from by omega] at h
    simp only [numV, numL, numV_numL l]
    exact h
theorem numL_lt : ∀ l : List UInt8, numL l < 256 ^ l.length
  | [] => by simp [numL]
  | c :: l => by
    have ih := numL_lt l
    have hc := c.toNat_lt
    simp only [numL, List.length_cons, Nat.pow_succ]; omega
theorem numL_inj : ∀ a b : List UInt8, a.length = b.length → numL a = numL b → a = b
  | [], [], _, _ => rfl
  | [], _ :: _, h, _ => by simp at h
  | _ :: _, [], h, _ => by simp at h
  | a :: l, b :: r, h, e => by
    have ha := a.toNat_lt
    have hb := b.toNat_lt
    simp only [numL] at e
    have h1 : a.toNat = b.toNat := by omega
    have h2 : numL l = numL r := by omega
    rw [UInt8.toNat_inj.1 h1, numL_inj l r (by simpa using h) h2]
def le4 (n : Nat) : List UInt8 := [byteK n 0, byteK n 1, byteK n 2, byteK n 3]
theorem le4_len (n : Nat) : (le4 n).length = 4 := rfl
theorem numL_le4 (n : Nat) (h : n < 4294967296) : numL (le4 n) = n := by rw [← numV_numL]; exact num_four n h

/-- The first k bytes of n, put at o. -/
def putN (l : List UInt8) (o n : Nat) : Nat → List UInt8
  | 0 => l
  | k + 1 => (putN l o n k).set (o + k) (byteK n k)
theorem putN_len (l : List UInt8) (o n : Nat) : ∀ k, (putN l o n k).length = l.length
  | 0 => rfl
  | k + 1 => by rw [putN, List.length_set, putN_len l o n k]
theorem put1_mid (a b : List UInt8) (x : UInt8) (o n : Nat) (h : a.length = o) : putN (a ++ (x :: b)) o n 1 = a ++ (byteK n 0 :: b) := by
  subst h; simp [putN]
theorem put4_mid (a b : List UInt8) (x y z u : UInt8) (o n : Nat) (h : a.length = o) : putN (a ++ (x :: y :: z :: u :: b)) o n 4 = a ++ (le4 n ++ b) := by
  subst h
  simp only [putN, le4]
  rw [List.set_append_right _ _ (by omega), List.set_append_right _ _ (by omega), List.set_append_right _ _ (by omega), List.set_append_right _ _ (by omega)]
  simp
/-- d put over what lies at o. -/
def copyL (l : List UInt8) (o : Nat) (d : List UInt8) : List UInt8 := l.take o ++ d ++ l.drop (o + d.length)
theorem copyL_len (l : List UInt8) (o : Nat) (d : List UInt8) (h : o + d.length ≤ l.length) : (copyL l o d).length = l.length := by
  unfold copyL; simp; omega
theorem copyL_nil (l : List UInt8) (o : Nat) : copyL l o [] = l := by unfold copyL; simp
theorem copyL_snoc (l : List UInt8) (o : Nat) (d : List UInt8) (c : UInt8) (h : o + d.length < l.length) : (copyL l o d).set (o + d.length) c = copyL l o (d ++ [c]) := by
  unfold copyL
  have h1 : (l.take o ++ d).length = o + d.length := by simp; omega
  have h2 : (l.drop (o + d.length)).set 0 c = c :: l.drop (o + d.length + 1) := by rw [List.drop_eq_getElem_cons h]; rfl
  rw [List.set_append_right _ _ (by omega), h1, Nat.sub_self, h2]
  simp
  rw [show o + (d.length + 1) = o + d.length + 1 from by omega]

/-! ### the sector of a frame -/
def row0 : List UInt8 := List.replicate 128 0
def row3 (kind n : Nat) : List UInt8 := putN (putN (putN row0 0 76 1) 1 kind 1) 2 n 1
def row4 (kind n seq : Nat) : List UInt8 := putN (row3 kind n) 4 seq 4
def row5 (kind seq : Nat) (d : List UInt8) : List UInt8 := copyL (row4 kind d.length seq) 8 d
def row6 (at_ kind seq : Nat) (d : List UInt8) : List UInt8 := putN (row5 kind seq d) 120 at_ 4
def row7 (at_ kind seq : Nat) (d : List UInt8) : List UInt8 := putN (row6 at_ kind seq d) 124 (crcV ((row6 at_ kind seq d).take 124)) 4
theorem row3_len (kind n : Nat) : (row3 kind n).length = 128 := by unfold row3; rw [putN_len, putN_len, putN_len]; rfl
theorem row4_len (kind n seq : Nat) : (row4 kind n seq).length = 128 := by unfold row4; rw [putN_len, row3_len]
theorem row5_len (kind seq : Nat) (d : List UInt8) (h : d.length ≤ 112) : (row5 kind seq d).length = 128 := by
  unfold row5; rw [copyL_len _ _ _ (by rw [row4_len]; omega), row4_len]
theorem row6_len (at_ kind seq : Nat) (d : List UInt8) (h : d.length ≤ 112) : (row6 at_ kind seq d).length = 128 := by
  unfold row6; rw [putN_len, row5_len _ _ _ h]
theorem row7_len (at_ kind seq : Nat) (d : List UInt8) (h : d.length ≤ 112) : (row7 at_ kind seq d).length = 128 := by
  unfold row7; rw [putN_len, row6_len _ _ _ _ h]
/-- The bytes 0 to 123. -/
def bodyL (at_ kind seq : Nat) (d : List UInt8) : List UInt8 := [76, byteK kind 0, byteK d.length 0, 0] ++ (le4 seq ++ (d ++ (List.replicate (112 - d.length) 0 ++ le4 at_)))
theorem bodyL_len (at_ kind seq : Nat) (d : List UInt8) (h : d.length ≤ 112) : (bodyL at_ kind seq d).length = 124 := by
  unfold bodyL; simp [le4]; omega
theorem row4_eq (kind n seq : Nat) : row4 kind n seq = [76, byteK kind 0, byteK n 0, 0] ++ (le4 seq ++ List.replicate 120 0) := by
  have e : row3 kind n = [76, byteK kind 0, byteK n 0, 0] ++ (0 :: 0 :: 0 :: 0 :: List.replicate 120 0) := by
    unfold row3 row0
    rw [show List.replicate 128 (0 : UInt8) = 0 :: 0 :: 0 :: 0 :: 0 :: 0 :: 0 :: 0 :: List.replicate 120 0 from rfl]
    simp only [putN, List.set_cons_zero, List.set_cons_succ, Nat.zero_add, Nat.add_zero]
    rfl
  unfold row4
  rw [e, put4_mid [76, byteK kind 0, byteK n 0, 0] (List.replicate 120 0) 0 0 0 0 4 seq rfl]
theorem row6_eq (at_ kind seq : Nat) (d : List UInt8) (h : d.length ≤ 112) : row6 at_ kind seq d = bodyL at_ kind seq d ++ [0, 0, 0, 0] := by
  have e : row5 kind seq d = ([76, byteK kind 0, byteK d.length 0, 0] ++ (le4 seq ++ (d ++ List.replicate (112 - d.length) 0))) ++ (0 :: 0 :: 0 :: 0 :: [0, 0, 0, 0]) := by
    unfold row5 copyL
    rw [row4_eq, show [76, byteK kind 0, byteK d.length 0, 0] ++ (le4 seq ++ List.replicate 120 0) = ([76, byteK kind 0, byteK d.length 0, 0] ++ le4 seq) ++ List.replicate 120 (0 : UInt8) from by simp]
    rw [List.take_append_of_le_length (by simp [le4]), List.take_of_length_le (by simp [le4]), List.drop_append, List.drop_of_length_le (by simp [le4]), List.nil_append]
    rw [show 8 + d.length - ([76, byteK kind 0, byteK d.length 0, 0] ++ le4 seq).length = d.length from by simp [le4], List.drop_replicate]
    rw [show 120 - d.length = (112 - d.length) + 8 from by omega, ← List.replicate_append_replicate]
    simp
  unfold row6
  rw [e, put4_mid _ _ _ _ _ _ _ _ (by simp [le4]; omega)]
  simp [bodyL]
theorem row7_eq (at_ kind seq : Nat) (d : List UInt8) (h : d.length ≤ 112) : row7 at_ kind seq d = bodyL at_ kind seq d ++ le4 (crcV (bodyL at_ kind seq d)) := by
  unfold row7
  rw [row6_eq _ _ _ _ h, List.take_append_of_le_length (by rw [bodyL_len _ _ _ _ h]; exact Nat.le_refl _), List.take_of_length_le (by rw [bodyL_len _ _ _ _ h]; exact Nat.le_refl _), put4_mid _ _ _ _ _ _ _ _ (bodyL_len _ _ _ _ h)]
  simp

def mkS (l : List UInt8) : Sec := if h : l.length = 128 then ⟨l, h⟩ else Sec.zero
theorem mkS_l {l : List UInt8} (h : l.length = 128) : (mkS l).l = l := by unfold mkS; rw [dif_pos h]
theorem sec_ext {s t : Sec} (h : s.l = t.l) : s = t := by cases s; cases t; cases h; rfl

/-! ### Seal -/
def badS (at_ kind : Int) : Prop := at_ < 0 ∨ 255 < at_ ∨ kind < 1 ∨ 255 < kind
instance (a k : Int) : Decidable (badS a k) := by unfold badS; infer_instance
def sealE (at_ kind : Int) (n : Nat) : Int := if badS at_ kind then 7 else if 112 < n then 3 else 0
def sealV (at_ kind : Int) (seq : Nat) (d : List UInt8) : Sec := if sealE at_ kind d.length = 0 then mkS (row7 at_.toNat kind.toNat seq d) else Sec.zero
theorem sealE_bad {at_ kind : Int} (n : Nat) (h : badS at_ kind) : sealE at_ kind n = 7 := by unfold sealE; rw [if_pos h]
theorem sealE_long {at_ kind : Int} {n : Nat} (h : ¬ badS at_ kind) (hn : 112 < n) : sealE at_ kind n = 3 := by unfold sealE; rw [if_neg h, if_pos hn]
theorem sealE_ok {at_ kind : Int} {n : Nat} (h : ¬ badS at_ kind) (hn : ¬ 112 < n) : sealE at_ kind n = 0 := by unfold sealE; rw [if_neg h, if_neg hn]
theorem sealE_zero {at_ kind : Int} {n : Nat} (h : sealE at_ kind n = 0) : ¬ badS at_ kind ∧ n ≤ 112 := by
  unfold sealE at h
  split at h
  · omega
  · rename_i h1
    split at h
    · omega
    · exact ⟨h1, by omega⟩
theorem sealV_no {at_ kind : Int} {seq : Nat} {d : List UInt8} (h : sealE at_ kind d.length ≠ 0) : sealV at_ kind seq d = Sec.zero := by unfold sealV; rw [if_neg h]
theorem sealV_l {at_ kind : Int} {seq : Nat} {d : List UInt8} (h : sealE at_ kind d.length = 0) : (sealV at_ kind seq d).l = row7 at_.toNat kind.toNat seq d := by
  unfold sealV; rw [if_pos h, mkS_l (row7_len _ _ _ _ (sealE_zero h).2)]

/-! ### Open -/
structure Fr where
  kind : Int
  seq : Nat
  data : ByteArray
  deriving DecidableEq
def Fr.zero : Fr := ⟨0, 0, ⟨#[]⟩⟩
def Fr.d (f : Fr) : List UInt8 := f.data.data.toList
def rd (l : List UInt8) (o k : Nat) : Nat := numL ((l.drop o).take k)
def byteAt (l : List UInt8) (i : Nat) : Nat := (l.getD i 0).toNat
def frOf (l : List UInt8) : Fr := ⟨(byteAt l 1 : Int), rd l 4 4, ⟨((l.drop 8).take (byteAt l 2)).toArray⟩⟩
def formOK (s : Sec) : Prop := byteAt s.l 2 ≤ 112 ∧ sealE (rd s.l 120 4 : Nat) (byteAt s.l 1 : Nat) (frOf s.l).d.length = 0 ∧ sealV (rd s.l 120 4 : Nat) (byteAt s.l 1 : Nat) (rd s.l 4 4) (frOf s.l).d = s
instance (s : Sec) : Decidable (formOK s) := by unfold formOK; infer_instance
def openE (at_ : Int) (s : Sec) : Int :=
  if at_ < 0 ∨ 255 < at_ then 7 else if s = Sec.zero then 70 else if rd s.l 124 4 ≠ crcV (s.l.take 124) then 71 else if ¬ formOK s then 6 else if (rd s.l 120 4 : Int) ≠ at_ then 72 else 0
def openF (at_ : Int) (s : Sec) : Fr := if openE at_ s = 0 then frOf s.l else Fr.zero

theorem take_mid (a b c : List UInt8) (o k : Nat) (ha : a.length = o) (hb : b.length = k) : ((a ++ (b ++ c)).drop o).take k = b := by
  subst ha; subst hb; rw [List.drop_left, List.take_left]
/-- What a sealed sector reads as. -/
theorem sealed (at_ kind seq : Nat) (d : List UInt8) (ha : at_ < 256) (hk : kind < 256) (hs : seq < 4294967296) (h : d.length ≤ 112) :
    byteAt (row7 at_ kind seq d) 0 = 76 ∧ byteAt (row7 at_ kind seq d) 1 = kind ∧ byteAt (row7 at_ kind seq d) 2 = d.length ∧ rd (row7 at_ kind seq d) 4 4 = seq ∧ ((row7 at_ kind seq d).drop 8).take d.length = d ∧ rd (row7 at_ kind seq d) 120 4 = at_ ∧
    rd (row7 at_ kind seq d) 124 4 = crcV ((row7 at_ kind seq d).take 124) := by
  have hb := bodyL_len at_ kind seq d h
  have e := row7_eq at_ kind seq d h
  have hc := crcV_lt (bodyL at_ kind seq d)
  have ht : (row7 at_ kind seq d).take 124 = bodyL at_ kind seq d := by rw [e, List.take_append_of_le_length (by omega), List.take_of_length_le (by omega)]
  have hrd : rd (row7 at_ kind seq d) 124 4 = crcV (bodyL at_ kind seq d) := by
    unfold rd
    have := take_mid (bodyL at_ kind seq d) (le4 (crcV (bodyL at_ kind seq d))) [] 124 4 hb rfl
    rw [List.append_nil] at this
    rw [e, this, numL_le4 _ hc]
  refine ⟨?_, ?_, ?_, ?_, ?_, ?_, by rw [hrd, ht]⟩
  · rw [e]; rfl
  · rw [e]; unfold bodyL byteAt; simp [byteK_nat]; omega
  · rw [e]; unfold bodyL byteAt; simp [byteK_nat]; omega
  · unfold rd
    have := take_mid [76, byteK kind 0, byteK d.length 0, 0] (le4 seq) ((d ++ (List.replicate (112 - d.length) 0 ++ le4 at_)) ++ le4 (crcV (bodyL at_ kind seq d))) 4 4 rfl rfl
    rw [e]; unfold bodyL
    simp only [List.append_assoc] at this ⊢
    unfold bodyL at this
    rw [this, numL_le4 _ hs]
  · have := take_mid ([76, byteK kind 0, byteK d.length 0, 0] ++ le4 seq) d ((List.replicate (112 - d.length) 0 ++ le4 at_) ++ le4 (crcV (bodyL at_ kind seq d))) 8 d.length (by simp [le4]) rfl
    rw [e]; unfold bodyL
    unfold bodyL at this
    simp only [List.append_assoc] at this ⊢
    exact this
  · unfold rd
    have := take_mid ([76, byteK kind 0, byteK d.length 0, 0] ++ (le4 seq ++ (d ++ List.replicate (112 - d.length) 0))) (le4 at_) (le4 (crcV (bodyL at_ kind seq d))) 120 4 (by simp [le4]; omega) rfl
    rw [e]; unfold bodyL
    unfold bodyL at this
    simp only [List.append_assoc] at this ⊢
    rw [this, numL_le4 _ (by omega)]

theorem fr_ext {f g : Fr} (h1 : f.kind = g.kind) (h2 : f.seq = g.seq) (h3 : f.d = g.d) : f = g := by
  obtain ⟨k, s, ⟨d⟩⟩ := f; obtain ⟨k', s', ⟨d'⟩⟩ := g
  have hd : d = d' := Array.ext' h3
  simp only at h1 h2
  rw [h1, h2, hd]
/-- Open of what Seal returns. -/
theorem open_seal (at_ : Int) (f : Fr) (other : Int) (hE : sealE at_ f.kind f.d.length = 0) (hs : f.seq < 4294967296) (ho : 0 ≤ other ∧ other ≤ 255) :
    openE other (sealV at_ f.kind f.seq f.d) = (if at_ = other then 0 else 72) ∧ (at_ = other → openF other (sealV at_ f.kind f.seq f.d) = f) ∧ (at_ ≠ other → openF other (sealV at_ f.kind f.seq f.d) = Fr.zero) := by
  obtain ⟨hb, hd⟩ := sealE_zero hE
  have hl := sealV_l (seq := f.seq) hE
  unfold badS at hb
  obtain ⟨a, ha⟩ : ∃ a : Nat, at_ = a := ⟨at_.toNat, by omega⟩
  obtain ⟨k, hk⟩ : ∃ k : Nat, f.kind = k := ⟨f.kind.toNat, by omega⟩
  have hs' := sealed at_.toNat f.kind.toNat f.seq f.d (by omega) (by omega) hs hd
  rw [← hl] at hs'
  obtain ⟨h0, h1, h2, h3, h4, h5, h6⟩ := hs'
  have hF : frOf (sealV at_ f.kind f.seq f.d).l = f := by
    apply fr_ext
    · show ((byteAt _ 1 : Nat) : Int) = _; rw [h1]; omega
    · exact h3
    · show (((sealV at_ f.kind f.seq f.d).l.drop 8).take (byteAt (sealV at_ f.kind f.seq f.d).l 2)) = _
      rw [h2, h4]
  have hform : formOK (sealV at_ f.kind f.seq f.d) := by
    unfold formOK
    rw [hF, h1, h2, h3, h5, show ((at_.toNat : Nat) : Int) = at_ from by omega, show ((f.kind.toNat : Nat) : Int) = f.kind from by omega]
    exact ⟨hd, hE, rfl⟩
  have hE2 : openE other (sealV at_ f.kind f.seq f.d) = if at_ = other then 0 else 72 := by
    unfold openE
    rw [if_neg (by omega), if_neg, if_neg (by rw [h6]; simp), if_neg (by simp [hform]), h5]
    · by_cases e : at_ = other
      · rw [if_neg (by omega), if_pos e]
      · rw [if_pos (by omega), if_neg e]
    · intro e
      rw [e] at h0
      exact absurd h0 (by decide)
  refine ⟨hE2, fun e => ?_, fun e => ?_⟩
  · unfold openF; rw [hE2, if_pos e, if_pos rfl, hF]
  · unfold openF; rw [hE2, if_neg e]; rfl
/-- Seal of what Open returns. -/
theorem seal_open (at_ : Int) (s : Sec) (h : openE at_ s = 0) : sealE at_ (openF at_ s).kind (openF at_ s).d.length = 0 ∧ sealV at_ (openF at_ s).kind (openF at_ s).seq (openF at_ s).d = s ∧ (openF at_ s).seq < 4294967296 := by
  have hF : openF at_ s = frOf s.l := by unfold openF; rw [if_pos h]
  rw [hF]
  unfold openE at h
  split at h
  · omega
  split at h
  · omega
  split at h
  · omega
  split at h
  · omega
  rename_i hf
  split at h
  · omega
  rename_i hp
  have hp' : (rd s.l 120 4 : Int) = at_ := Decidable.not_not.1 hp
  obtain ⟨h1, h2, h3⟩ := Decidable.not_not.1 hf
  rw [hp'] at h2 h3
  refine ⟨h2, h3, ?_⟩
  have := numL_lt ((s.l.drop 4).take 4)
  have hl : ((s.l.drop 4).take 4).length = 4 := by rw [List.length_take, List.length_drop, s.len]; rfl
  rw [hl] at this
  exact this
theorem openE_cases (at_ : Int) (s : Sec) : openE at_ s = 0 ∨ openE at_ s ≠ 0 := Decidable.em _

/-! ### bits in a row -/
def resV : Nat := halfN 32 allV ^^^ allV
theorem crc_four (a b : List UInt8) (hb : b.length = 4) : crcV (a ++ b) = halfN 32 ((crcV a ^^^ allV) ^^^ numL b) ^^^ allV := by
  have h1 : onV (0 ^^^ allV) a = crcV a ^^^ allV := by unfold crcV crcOn; rw [xor_cancel]
  show onV (0 ^^^ allV) (a ++ b) ^^^ allV = _
  rw [onV_append, h1, onV_num b, hb, numV_numL]
theorem crc_res (a b : List UInt8) (hb : b.length = 4) (h : numL b = crcV a) : crcV (a ++ b) = resV := by
  rw [crc_four a b hb, h, Nat.xor_comm (crcV a), xor_cancel]; rfl
theorem sec_res (s : Sec) (h : rd s.l 124 4 = crcV (s.l.take 124)) : crcV s.l = resV := by
  have hl : ((s.l.drop 124).take 4).length = 4 := by rw [List.length_take, List.length_drop, s.len]; rfl
  have e : (s.l.drop 124).take 4 = s.l.drop 124 := List.take_of_length_le (by rw [List.length_drop, s.len]; exact Nat.le_refl _)
  have := crc_res (s.l.take 124) ((s.l.drop 124).take 4) hl h
  rwa [e, List.take_append_drop] at this
theorem open_sum {at_ : Int} {s : Sec} (h : openE at_ s = 0) : rd s.l 124 4 = crcV (s.l.take 124) := by
  unfold openE at h
  split at h
  · omega
  split at h
  · omega
  split at h
  · omega
  · rename_i h1; exact Decidable.not_not.1 h1
/-- A sealed sector some of whose bits in a row are turned: Open returns an error unless none is. -/
theorem open_burst (at_ : Int) (s t : Sec) (p pat : Nat) (hs : openE at_ s = 0) (hp : p < 1024) (hpat : pat < 4294967296) (h : numV t.l = burst p 32 128 pat ^^^ numV s.l) : openE at_ t = 0 ↔ t = s := by
  constructor
  · intro ht
    have e := (burst_crc s.l t.l p 128 pat s.len t.len (by omega) hpat h).1 (by rw [sec_res s (open_sum hs), sec_res t (open_sum ht)])
    rw [e, Nat.zero_xor, numV_numL, numV_numL] at h
    exact sec_ext (numL_inj _ _ (by rw [s.len, t.len]) h)
  · rintro rfl; exact hs
end Go.Proofs.YtbaibmndmcdfdaaDoor.F
