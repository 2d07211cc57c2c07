/- What CodecRoundTrip needs: the invariant of its first loop, bytes.Clone, rows of ints. -/
import Derived.Test.YtheecmkkhdjhhaaDoorRef
import Derived.Deep.AppendLies
import Derived.Deep.QuietTactic
import Derived.BigQuiet
import Derived.Lib.SliceRun
namespace Go.Proofs.YtheecmkkhdjhhaaDoor
open Go.RowKit Go.PlainAid

/-- After some numbers: what was there is there, and each number is decoded at its offset. -/
def Inv (L Z out : List Int) (offs ws : List Nat) : Prop :=
  Z.length ≤ out.length ∧ out.take Z.length = Z ∧ offs.length = ws.length ∧
  ∀ j, j < ws.length → isW (ws.getD j 0) = true ∧ offs.getD j 0 + ws.getD j 0 ≤ out.length ∧ dec ((out.drop (offs.getD j 0)).take (ws.getD j 0)) = L.getD j 0
theorem Inv.start (L Z : List Int) : Inv L Z Z [] [] := ⟨Nat.le_refl _, List.take_length, rfl, fun j h => absurd h (by simp)⟩
theorem drop_take_pre (P E : List Int) (a b : Nat) (h : a + b ≤ P.length) : ((P ++ E).drop a).take b = (P.drop a).take b := by
  rw [List.drop_append_of_le_length (by omega), List.take_append_of_le_length (by rw [List.length_drop]; omega)]
theorem Inv.step {L Z out : List Int} {offs ws : List Nat} (h : Inv L Z out offs ws) (n : Int) (k : Nat) (hk : isW k = true) (h0 : 0 ≤ n) (h1 : n < 256 ^ k) (hL : L.getD ws.length 0 = n) :
    Inv L Z (out ++ enc n k) (offs ++ [out.length]) (ws ++ [k]) := by
  obtain ⟨a, b, c, d⟩ := h
  refine ⟨by rw [List.length_append]; omega, by rw [List.take_append_of_le_length a]; exact b, by simp [c], fun j hj => ?_⟩
  have hj2 : j < ws.length + 1 := by simpa using hj
  rcases (show j < ws.length ∨ j = ws.length from by omega) with hlt | rfl
  · have e1 : (ws ++ [k]).getD j 0 = ws.getD j 0 := by simp [List.getElem?_append_left hlt]
    have e2 : (offs ++ [out.length]).getD j 0 = offs.getD j 0 := by simp [List.getElem?_append_left (show j < offs.length by omega)]
    rw [e1, e2]
    obtain ⟨x, y, z⟩ := d j hlt
    exact ⟨x, by rw [List.length_append]; omega, by rw [drop_take_pre _ _ _ _ y]; exact z⟩
  · have e1 : (ws ++ [k]).getD ws.length 0 = k := by simp
    have e2 : (offs ++ [out.length]).getD ws.length 0 = out.length := by rw [← c]; simp
    rw [e1, e2]
    refine ⟨hk, by rw [List.length_append, length_enc]; omega, ?_⟩
    rw [List.drop_left, List.take_of_length_le (by rw [length_enc]; omega), dec_enc, hL]
    exact Int.emod_eq_of_lt h0 h1

theorem grownBy_of_below {w w' : World} (h : Below w.heap.size w w') (row : Option Nat) : w.grownBy w' row := ⟨h.os, h.tape, h.output, h.size, fun k hk _ => h.block k hk⟩
theorem own_below {w w' : World} {base : Nat} {e : TypeId} {size : Nat} {v : Value} {n : Nat} {xs : List Value} (h : w.ownsRow base e size v n xs) (hb : Below w.heap.size w w') : w'.ownsRow base e size v n xs :=
  h.kept (grownBy_of_below hb none) (by cases hv : v.ownBlock with
    | none => exact .inl rfl
    | some g => exact .inr (by simp))
/-- A row of ints and a row of bytes are different blocks. -/
theorem own_ne_row {w : World} {base g n : Nat} {v : Value} {xs : List Value} {zs : List Int} (h : w.ownsRow base 3 1 v n xs) (hr : Row w g zs) : some g ≠ v.ownBlock := by
  rcases h.2 with ⟨rfl, _⟩ | ⟨g', cap, cur, rfl, _, hh, _⟩
  · simp [Value.ownBlock]
  · intro e
    have e' : g = g' := by simpa [Value.ownBlock] using e
    subst e'
    unfold Row at hr
    rw [hh] at hr
    injection hr with hr
    injection hr with _ ht
    exact absurd ht (by decide)
theorem Row.grown {w w' : World} {g : Nat} {zs : List Int} {row : Option Nat} (h : Row w g zs) (hg : w.grownBy w' row) (hne : some g ≠ row) : Row w' g zs := (hg.block g h.lt hne).trans h
/-- Two rows of the call's own that are not one block. -/
def Sep (v1 v2 : Value) : Prop := ∀ g, v1.ownBlock = some g → v2.ownBlock ≠ some g

/-- The numbers of a slice of uint64. -/
def UI (w : World) (A : Option Addr) (n : Nat) (L : List Int) : Prop :=
  (0 < n → ∃ b o, A = some ⟨b, o, none⟩ ∧ ∀ i, i < n → w.cell? ⟨b, o + i, none⟩ = some (.int .u64 (L.getD i 0))) ∧ ∀ i, 0 ≤ L.getD i 0 ∧ L.getD i 0 < 18446744073709551616
theorem UI.below {w w' : World} {A : Option Addr} {n : Nat} {L : List Int} (h : UI w A n L) (hb : Below w.heap.size w w') : UI w' A n L := by
  refine ⟨fun hn => ?_, h.2⟩
  obtain ⟨b, o, rfl, hc⟩ := h.1 hn
  exact ⟨b, o, rfl, fun i hi => (hb.cell (lt_of_cell (hc i hi))).trans (hc i hi)⟩
theorem IsRow.ui {w : World} {a : Option Addr} {len cap : Nat} {zs : List Int} (h : IsRow .u64 w a len cap zs) (m : Nat) (hm : m ≤ len) : UI w a m zs := by
  have hbd : ∀ i, 0 ≤ zs.getD i 0 ∧ zs.getD i 0 < 18446744073709551616 := by
    intro i
    rcases h with ⟨_, _, _, rfl⟩ | ⟨x, _, _, _, _, _, hw⟩
    · simp
    · by_cases hi : i < zs.length
      · have := bounds_u64 (hw _ (List.getElem_mem hi))
        simp [List.getElem?_eq_getElem hi]
        omega
      · simp [List.getElem?_eq_none (show zs.length ≤ i by omega)]
  refine ⟨fun hn => ?_, hbd⟩
  rcases h with ⟨_, rfl, _, _⟩ | ⟨x, rfl, hl, hmx, hz, hc, hw⟩
  · omega
  · obtain ⟨b, o, sp⟩ := x
    have h0 := hc 0 (by omega)
    have hs : sp = none := by simpa [Addr.add] using World.cell?_spot h0
    subst hs
    refine ⟨b, o, rfl, fun i hi => ?_⟩
    have e : (⟨b, o, none⟩ : Addr).add i = ⟨b, o + i, none⟩ := by unfold Addr.add; split <;> simp_all
    rw [← e, hc i (by omega)]

def Cloned (n : Nat) (zs : List Int) (w : World) (e : Ending) (w' : World) : Prop := ∃ A' c', e = .returned (.slice A' n c') ∧ BI w' A' n zs ∧ Below w.heap.size w w'
set_option maxHeartbeats 400000 in
theorem clone_any (A : Option Addr) (n c : Nat) (zs : List Int) (w : World) (hb : BI w A n zs) (hnil : A = none → n = 0 ∧ c = 0) (hn : n ≤ 140737488350000) :
    Calls Tryd.prog 28 #[.slice A n c] w (Cloned n zs w) := by
  have heq := fun wx => Lib.run_eql_slice_nil (P := Tryd.prog) wx 22 5 A n c 0 0 Tryd.underlying22
  have hB0 : Below w.heap.size w (w.alloc (.cells #[] 5)) := (Below.refl _ _).alloc (Nat.le_refl _) _
  have hown0 : (w.alloc (.cells #[] 5)).ownsRow w.heap.size 5 1 (.slice (some ⟨w.heap.size, 0, none⟩) 0 0) 0 [] := World.ownsRow_lit w #[] 0 (Nat.le_refl _) (by unfold maxLen; omega) (by simp)
  have hb0 := hb.below hB0
  have Hnil := Lib.hid hnil
  cases A with
  | none =>
    obtain ⟨rfl, rfl⟩ := hnil rfl
    clear hnil
    obtain rfl : zs = [] := List.eq_nil_of_length_eq_zero hb.1
    go_enter Tryd.func28, Tryd.ntmps28
    go_wp2
    go_ret
    exact ⟨none, 0, rfl, BI.nil _ _, Below.refl _ _⟩
  | some ad =>
    have hz := hb.2.1
    clear hnil hb
    go_enter Tryd.func28, Tryd.ntmps28
    go_wp2_with (at_builtin; refine app_bytes _ rfl (.tmp 5) (.tmp 6) rfl w.heap.size (.slice (some ⟨w.heap.size, 0, none⟩) 0 0) 0 [] rfl hown0 (some ad) n c zs rfl hb0 Hnil.out (by omega) hB0.size ?_; intro v1 w1 hown1 hg1)
    have hB1 : Below w.heap.size w w1 := hB0.grown hg1 hB0.size (by simp [Value.ownBlock])
    have hown2 : w1.ownsRow w.heap.size 5 1 v1 n (zs.map (Value.int .u8)) := by simpa using hown1
    obtain ⟨A', c', rfl, hbi⟩ := own_form hown2 hz
    go_ret
    exact ⟨A', c', rfl, hbi, hB1⟩
end Go.Proofs.YtheecmkkhdjhhaaDoor
