/- What the laws ask of a queue that made made. -/
import Derived.Test.YtfpolnokdebncaaMade
import Derived.Test.YtfpolnokdebncaaWorks
namespace Go.Proofs.Ytfpolnokdebncaa
open Go.RowKit QT
theorem items_len : ∀ (l : List (Option Nat)) (k : Nat), (itemsFrom k l).length = l.countP Option.isSome
  | [], k => rfl
  | none :: t, k => by rw [show itemsFrom k (none :: t) = itemsFrom (k + 1) t from rfl, items_len t (k + 1)]; simp
  | some p :: t, k => by rw [show itemsFrom k (some p :: t) = (k, lett p) :: itemsFrom (k + 1) t from rfl, List.length_cons, items_len t (k + 1)]; simp
theorem items_mem {l : List (Option Nat)} {i p : Nat} (h : l[i]? = some (some p)) : (i, lett p) ∈ itemsFrom 0 l := by
  have := (items_out p l 0 i h).mem_iff (a := (i, lett p))
  rw [Nat.zero_add] at this
  exact this.2 (List.mem_cons_self ..)
/-- How many of the first k ids are wished for. -/
def cnt (want : List (Option Nat)) (k : Nat) : Nat := (want.take k).countP Option.isSome
theorem cnt_all (want : List (Option Nat)) : cnt want want.length = (itemsFrom 0 want).length := by rw [items_len]; unfold cnt; rw [List.take_length]
theorem cnt_succ {want : List (Option Nat)} {k : Nat} {x : Option Nat} (h : want[k]? = some x) : cnt want (k + 1) = cnt want k + (if x.isSome then 1 else 0) := by
  unfold cnt
  rw [List.take_add_one, h, List.countP_append]
  cases x <;> simp
section
variable {w W : World} {P n Z : Nat} {want : List (Option Nat)}
theorem Holding.below {W' : World} (h : Holding w W P n Z want) (hb : Below W.heap.size W W') : Holding w W' P n Z want := ⟨h.1, h.2.1, h.2.2.below hb⟩
theorem h_len (h : Holding w W P n Z want) : Calls Try.prog 32 #[.pointer (some ⟨P, 0, none⟩)] W fun e w' => e = .returned (.int .i64 ((itemsFrom 0 want).length : Nat)) ∧ W = w' := has_len h.2.2.has
theorem h_priority (h : Holding w W P n Z want) (i q : Nat) (hx : want[i]? = some (some q)) : Calls Try.prog 40 #[.pointer (some ⟨P, 0, none⟩), .int .i64 (i : Nat)] W fun e w' => e = .returned (.tuple #[.string (lett q), .bool true]) ∧ W = w' :=
  has_priority h.2.2.has (i, lett q) (items_mem hx)
theorem h_priority_none (h : Holding w W P n Z want) (i : Nat) (hx : want[i]? = some none) : Calls Try.prog 40 #[.pointer (some ⟨P, 0, none⟩), .int .i64 (i : Nat)] W fun e w' => e = .returned (.tuple #[.string ⟨#[]⟩, .bool false]) ∧ W = w' :=
  has_priority_none h.2.2.has i (by have := (List.getElem?_eq_some_iff.1 hx).1; have := h.1; omega) (fun y hy => by have := items_no want 0 i hx y hy; omega)
set_option maxHeartbeats 1000000 in
theorem count_any (h : Holding w W P n Z want) (hn : n ≤ 50) : Calls Try.prog 33 #[.slice (some ⟨Z, 0, none⟩) n n] W fun e w' => e = .returned (.int .i64 ((itemsFrom 0 want).length : Nat)) ∧ W = w' := by
  have hl := h.1
  rw [← cnt_all, hl]
  have gH := Lib.hid h
  clear h
  go_enter Try.func33, Try.ntmps33
  go_wp2
  go_loopw [3, 4] (fun c i wr => ∃ k : Nat, k ≤ n ∧ i = .int .i64 k ∧ c = .int .i64 (cnt want k : Nat) ∧ cnt want k ≤ k ∧ wr = W) (fun _ i _ => n - (intOf i).toNat)
  case atStart => exact ⟨0, Nat.zero_le _, rfl, by simp [cnt], by simp [cnt], rfl⟩
  case round =>
    obtain ⟨k, hk, rfl, rfl, hck, rfl⟩ := hrel
    by_cases hlt : k < n
    · obtain ⟨x, hx⟩ : ∃ x, want[k]? = some x := ⟨_, List.getElem?_eq_getElem (by omega)⟩
      obtain ⟨c0, _⟩ := QBy.wish gH.out.2.2 hx
      have hs := cnt_succ hx
      have gs := Lib.hid hs
      obtain ⟨c, hc⟩ : ∃ c, c = cnt want k := ⟨_, rfl⟩
      rw [← hc] at hck
      rw [← hc]
      have gc := Lib.hid hc
      clear hx hs hc
      cases x with
      | none =>
        have c1 : wr.cell? ⟨Z, k, none⟩ = some (.int .i64 (-1)) := c0
        clear c0
        go_wp2
        have e : cnt want (k + 1) = c := by rw [gs.out, gc.out]; simp
        exact ⟨⟨k + 1, by omega, by simp, by rw [e], by omega, trivial⟩, by simp [intOf]; omega⟩
      | some q =>
        have c1 : wr.cell? ⟨Z, k, none⟩ = some (.int .i64 (q : Nat)) := c0
        have q0 : (0 : Int) ≤ (q : Int) := by omega
        clear c0
        go_wp2
        have e : cnt want (k + 1) = c + 1 := by rw [gs.out, gc.out]; simp
        exact ⟨⟨k + 1, by omega, by simp, by rw [e]; simp, by omega, trivial⟩, by simp [intOf]; omega⟩
    · obtain rfl : n = k := by omega
      go_wp2
      go_ret
      exact ⟨rfl, rfl⟩
end
end Go.Proofs.Ytfpolnokdebncaa
