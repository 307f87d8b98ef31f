/- A map's words as one array: loaded, compared. -/
import Derived.Test.YtaiaibpcpcndgaaSame
import Derived.ChangeKeysEq
import Derived.Laws.Cells
namespace Go.Proofs.Ytaiaibpcpcndgaa
open Go.RowKit

def wordsA (L : List Bool) : Array Value := ((List.range 64).map fun k => Value.int .u64 (wordV L k)).toArray
theorem load_words {w : World} {b : Nat} {L : List Bool} (h : MapAt w b L) : Sem.run Try.prog (Instr.loadAt 63 (.pointer (some ⟨b, 2, none⟩))) w = .ok (.agg (wordsA L)) w := by
  have hl : (loadCells ⟨b, 2, none⟩ 64).run Try.prog w = .ok (wordsA L) w :=
    run_loadCells (P := Try.prog) w ⟨b, 2, none⟩ 64 (fun k => .int .u64 (wordV L k)) (fun j hj => by rw [addr_add]; exact h.word j hj)
  have hi : (Try.prog.info? 63).map (·.size) = some 64 := by kernel_rfl
  have hu : Try.prog.underlying 63 = some (.array 64 62) := Try.underlying63
  cases hq : Try.prog.info? 63 with
  | none => simp [hq] at hi
  | some i =>
    have hs : i.size = 64 := by simpa [hq] using hi
    have hagg : (isAgg 63).run Try.prog w = .ok true w := by
      unfold isAgg
      rw [Sem.run_bind, run_underlying hu w]
      simp
    simp [Instr.loadAt, Instr.sureAddr, loadVar, Sem.run_bind, hagg, sizeOf, typeInfo, hq, hs, hl]

theorem run_eqItems_int {P : Program} (w : World) (d : Nat) {e : TypeId} {k : IntKind} (he : P.underlying e = some (.int k)) (f g : Nat → Int) (n : Nat) :
    ∀ is : List Nat, (∀ i ∈ is, i < n) → (Op.eqItems (d + 1) e 1 ((List.range n).map fun j => Value.int k (f j)).toArray ((List.range n).map fun j => Value.int k (g j)).toArray is).run P w = .ok (is.all fun i => f i == g i) w
  | [], _ => by simp [Op.eqItems]
  | i :: is, h => by
    have hi : i < n := h i (by simp)
    have px : (part e ((List.range n).map fun j => Value.int k (f j)).toArray (i * 1)).run P w = .ok (.int k (f i)) w := by
      simp [part, isAgg, run_underlying he, hi]
    have py : (part e ((List.range n).map fun j => Value.int k (g j)).toArray (i * 1)).run P w = .ok (.int k (g i)) w := by
      simp [part, isAgg, run_underlying he, hi]
    have pe : (Op.equalIn (d + 1) e (.int k (f i)) (.int k (g i))).run P w = .ok (f i == g i) w := by
      simp [Op.equalIn, run_underlying he]
    have ih := run_eqItems_int w d he f g n is (fun j hj => h j (List.mem_cons_of_mem _ hj))
    simp only [Op.eqItems, Sem.run_bind, px, py, pe, Result.andThen_ok, List.all_cons]
    cases hb : (f i == g i)
    · simp
    · simpa using ih

theorem words_eq (L M : List Bool) (h : L.length = M.length) (hL : L.length ≤ 4096) : ((List.range 64).all fun i => ((wordV L i : Nat) : Int) == ((wordV M i : Nat) : Int)) = (L == M) := by
  rw [Bool.eq_iff_iff, List.all_eq_true, beq_iff_eq]
  constructor
  · intro hall
    apply list_ext h
    intro i hi
    have := hall (i / 64) (by simp; omega)
    have e : wordV L (i / 64) = wordV M (i / 64) := by
      have := beq_iff_eq.1 this; omega
    have h1 := wordV_bit L (i / 64) (i % 64) (by omega)
    have h2 := wordV_bit M (i / 64) (i % 64) (by omega)
    rw [Nat.div_add_mod] at h1 h2
    rw [← h1, ← h2, e]
  · rintro rfl i _
    exact beq_self_eq_true _

theorem eql_words (w : World) (L M : List Bool) (h : L.length = M.length) (hL : L.length ≤ 4096) :
    Sem.run Try.prog (binOp .eql 63 (.agg (wordsA L)) (.agg (wordsA M))) w = .ok (.bool (L == M)) w := by
  have hu : Try.prog.underlying 63 = some (.array 64 62) := Try.underlying63
  have hk : Try.prog.underlying 62 = some (.int .u64) := Try.underlying62
  have hc : Try.prog.cellsOf 62 = 1 := by kernel_rfl
  have hs : (Try.prog.info? 62).isSome = true := by kernel_rfl
  obtain ⟨i, hi⟩ := Option.isSome_iff_exists.1 hs
  have he := run_equalIn_array (P := Try.prog) (w := w) 9999 (wordsA L) (wordsA M) hu hi
  rw [hc] at he
  have h2 := run_eqItems_int (P := Try.prog) w 9998 hk (fun j => (wordV L j : Nat)) (fun j => (wordV M j : Nat)) 64 (List.range 64) (fun i hi => by simpa using hi)
  rw [words_eq L M h hL] at h2
  have h3 : (Op.equalIn 10000 63 (.agg (wordsA L)) (.agg (wordsA M))).run Try.prog w = .ok (L == M) w := he.trans h2
  simp only [binOp]
  simp [Op.equal, Op.maxDepth, h3]

/-- The whole-array load and the comparison of arrays, behind names that the walk does not open. -/
noncomputable def loadX (x : Value) : Sem Value := Instr.loadAt 63 x
theorem loadX_eq (x : Value) : Instr.loadAt 63 x = loadX x := rfl
noncomputable def eqlX (x y : Value) : Sem Value := binOp .eql 63 x y
theorem eqlX_eq (x y : Value) : binOp .eql 63 x y = eqlX x y := rfl
attribute [local go_sem ↓] loadX_eq eqlX_eq

set_option maxHeartbeats 1000000 in
theorem sameM_any (b c : Nat) (L M : List Bool) (w : World) (hb : MapAt w b L) (hc : MapAt w c M) :
    Calls Try.prog 21 #[.pointer (some ⟨b, 0, none⟩), .pointer (some ⟨c, 0, none⟩)] w fun e w' => e = .returned (.bool (L == M)) ∧ Below w.heap.size w w' := by
  have HBC := Lib.hid (fun (x : Nat) w (hx : MapAt w x L ∨ MapAt w x M) => (show Calls Try.prog 51 #[.pointer (some ⟨x, 0, none⟩)] w fun e w' => e = .returned (.bool true) ∧ w = w' from hx.elim (fun h => isMade_any x L w h) (fun h => isMade_any x M w h)))
  have h1 := hb.size
  have h2 := hc.size
  have hL := hb.2
  have Hb := Lib.hid hb
  have Hc := Lib.hid hc
  have l1 : ∀ n, Sem.run Try.prog (loadX (.pointer (some ⟨b, 2, none⟩))) (w.drewN n) = .ok (.agg (wordsA L)) (w.drewN n) := fun n => load_words (hb.drewN n)
  have l2 : ∀ n, Sem.run Try.prog (loadX (.pointer (some ⟨c, 2, none⟩))) (w.drewN n) = .ok (.agg (wordsA M)) (w.drewN n) := fun n => load_words (hc.drewN n)
  clear hb hc
  by_cases hl : L.length = M.length
  · have l3 : ∀ n, Sem.run Try.prog (eqlX (.agg (wordsA L)) (.agg (wordsA M))) (w.drewN n) = .ok (.bool (L == M)) (w.drewN n) := fun n => eql_words _ L M hl hL
    have hle : ((L.length : Int) == M.length) = true := by simp; omega
    clear hl
    go_enter Try.func21, Try.ntmps21
    go_wp2
    go_quiet ((go_at_call 51; exact calm (fun W hW => HBC.out _ W (by rw [hW]; first | exact .inl Hb.out | exact .inr Hc.out))))
    go_wp2
    go_ret
    exact ⟨rfl, ⟨rfl, rfl, rfl, Nat.le_refl _, fun _ _ => rfl⟩⟩
  · have hle : ((L.length : Int) == M.length) = false := by rw [beq_eq_false_iff_ne]; omega
    have HI : Hid ((L == M) = false) := Lib.hid (by rw [beq_eq_false_iff_ne]; rintro rfl; exact hl rfl)
    clear hl
    go_enter Try.func21, Try.ntmps21
    go_wp2
    go_quiet ((go_at_call 51; exact calm (fun W hW => HBC.out _ W (by rw [hW]; first | exact .inl Hb.out | exact .inr Hc.out))))
    go_wp2
    go_ret
    exact ⟨ret_bool HI.out.symm, ⟨rfl, rfl, rfl, Nat.le_refl _, fun _ _ => rfl⟩⟩
end Go.Proofs.Ytaiaibpcpcndgaa
