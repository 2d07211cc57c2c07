/- An image that was made since a world w0, beside blocks that stay. -/
import Derived.Test.YtaohlblhfmlpbaaRead
namespace Go.Proofs.Ytaohlblhfmlpbaa
open Go.RowKit
theorem SB.same {w w' : World} {A : Option Addr} {n : Nat} {l : List E} (h : SB w A n l) (hb : ∀ a, A = some a → w'.heap[a.block]? = w.heap[a.block]?) : SB w' A n l := by
  refine ⟨h.1, fun hn => ?_⟩
  obtain ⟨a, rfl, hc⟩ := h.2 hn
  refine ⟨a, rfl, fun i x hx => (World.cell?_of_block (w := w) ?_).trans (hc i x hx)⟩
  have e : (a.add i).block = a.block := by unfold Addr.add; split <;> rfl
  rw [e]
  exact hb a rfl
/-- A slice of bytes whose cells are a row's. -/
theorem SB.of_row {w : World} {b n : Nat} {l : List E} {t : TypeId} (hl : l.length = n) (h : w.heap[b]? = some (.cells (vs l).toArray t (0, 0))) : SB w (some ⟨b, 0, none⟩) n l := by
  refine ⟨hl, fun _ => ⟨_, rfl, fun i x hx => ?_⟩⟩
  rw [add_plain, Nat.zero_add]
  refine (cell_of_row w b i _ _ (0, 0) h).trans ?_
  rw [List.getElem?_toArray]
  exact vs_some hx
/-- An image, and blocks S that are none of its own. -/
def Beside (w0 : World) (P sz d : Nat) (l : List E) (S : Nat → Prop) (w : World) : Prop := ∃ v, IOwn w w0.heap.size P sz d v l ∧ Below w0.heap.size w0 w ∧ ∀ b, S b → ¬ Foot P v b ∧ b < w.heap.size
section
variable {w0 w : World} {P sz d : Nat} {l : List E} {S S' : Nat → Prop}
theorem Beside.low (h : Beside w0 P sz d l S w) : Below w0.heap.size w0 w := by
  obtain ⟨_, _, h2, _⟩ := h
  exact h2
theorem Beside.bounds (h : Beside w0 P sz d l S w) : d ≤ l.length ∧ l.length ≤ sz ∧ sz ≤ 8192 := by
  obtain ⟨_, h1, _⟩ := h
  exact ⟨h1.dle, h1.le, h1.sz_le⟩
theorem Beside.below {w' : World} (h : Beside w0 P sz d l S w) (hb : Below w.heap.size w w') : Beside w0 P sz d l S w' := by
  obtain ⟨v, h1, h2, h3⟩ := h
  exact ⟨v, h1.below hb, h2.trans (hb.mono h2.size), fun b hS => ⟨(h3 b hS).1, Nat.lt_of_lt_of_le (h3 b hS).2 hb.size⟩⟩
theorem Beside.lt (h : Beside w0 P sz d l S w) {b : Nat} (hb : S b) : b < w.heap.size := by
  obtain ⟨v, h1, h2, h3⟩ := h
  exact (h3 b hb).2
theorem Beside.mono (h : Beside w0 P sz d l S w) (hS : ∀ b, S' b → S b) : Beside w0 P sz d l S' w := by
  obtain ⟨v, h1, h2, h3⟩ := h
  exact ⟨v, h1, h2, fun b hb => h3 b (hS b hb)⟩
/-- Further blocks: those that are new. -/
theorem Beside.more {w' : World} (h : Beside w0 P sz d l S w) (hb : Below w.heap.size w w') (hS : ∀ b, S' b → S b ∨ w.heap.size ≤ b ∧ b < w'.heap.size) : Beside w0 P sz d l S' w' := by
  obtain ⟨v, h1, h2, h3⟩ := h
  refine ⟨v, h1.below hb, h2.trans (hb.mono h2.size), fun b hb' => ?_⟩
  rcases hS b hb' with h4 | h4
  · exact ⟨(h3 b h4).1, Nat.lt_of_lt_of_le (h3 b h4).2 hb.size⟩
  · exact ⟨fun hF => by have := h1.foot_lt b hF; omega, h4.2⟩
/-- Blocks of S have turned, and new ones were made. -/
theorem Beside.turn {w' : World} (h : Beside w0 P sz d l S w) (hb : But (fun b => S b ∧ w0.heap.size ≤ b) w w') (hS : ∀ b, S' b → S b ∨ w.heap.size ≤ b ∧ b < w'.heap.size) : Beside w0 P sz d l S' w' := by
  obtain ⟨v, h1, h2, h3⟩ := h
  refine ⟨v, h1.same fun b hF => hb.block b (h1.foot_lt b hF) fun hS => (h3 b hS.1).1 hF, h2.trans (hb.below h2.size fun b hS => hS.2), fun b hb' => ?_⟩
  rcases hS b hb' with h4 | h4
  · exact ⟨(h3 b h4).1, Nat.lt_of_lt_of_le (h3 b h4).2 hb.size⟩
  · exact ⟨fun hF => by have := h1.foot_lt b hF; omega, h4.2⟩
theorem Beside.left {v : Value} {m : Nat} {l' : List E} {w' : World} (h : IOwn w w0.heap.size P sz d v l) (hb : Below w0.heap.size w0 w) (hS : ∀ b, S b → ¬ Foot P v b ∧ b < w.heap.size) (hl : Left w w0.heap.size P sz m v l' w') :
    Beside w0 P sz m l' S w' ∧ ∀ b, S b → w'.heap[b]? = w.heap[b]? := by
  obtain ⟨v', h1, h2⟩ := hl
  refine ⟨⟨v', h1, hb.trans (h2.below hb.size h.foot_le).1, fun b hb' => ⟨fun hF => ?_, Nat.lt_of_lt_of_le (hS b hb').2 h2.but.size⟩⟩, fun b hb' => h2.but.block b (hS b hb').2 (hS b hb').1⟩
  rcases h2.own b hF with h3 | h3
  · exact (hS b hb').1 h3
  · have := (hS b hb').2
    omega
theorem b_new (n : Nat) (hl : Below w0.heap.size w0 w) (h1 : 1 ≤ n) (h2 : n ≤ 8192) (hS : ∀ b, S b → b < w.heap.size) : Calls Try.prog 11 #[.int .i64 (n : Nat)] w fun e w' => e = .returned (.tuple #[.pointer (some ⟨w.heap.size, 0, none⟩), .int .i64 0]) ∧ Hid (Beside w0 w.heap.size n 0 [] S w' ∧ Below w.heap.size w w') := by
  refine (new_any n w h1 h2).mono ?_
  rintro e w' ⟨rfl, h⟩
  refine ⟨rfl, ⟨_, ⟨hl.size, h.out.1.blk, World.ownsRow_nil _ _ _ _, h.out.1.dle, h.out.1.le, h2⟩, hl.trans (h.out.2.mono hl.size), fun b hb => ⟨fun hF => ?_, Nat.lt_of_lt_of_le (hS b hb) h.out.2.size⟩⟩, h.out.2⟩
  have := hS b hb
  rcases hF with rfl | hF
  · omega
  · simp [Value.ownBlock] at hF
theorem b_append (h : Beside w0 P sz d l S w) {A : Option Addr} {n c : Nat} {xs : List E} (hs : SB w A n xs) (hA : A = none → c = 0) (hn : l.length + n ≤ sz) :
    Calls Try.prog 13 #[.pointer (some ⟨P, 0, none⟩), .slice A n c] w fun e w' => e = .returned (.int .i64 0) ∧ Hid (Beside w0 P sz d (l ++ xs) S w' ∧ ∀ b, S b → w'.heap[b]? = w.heap[b]?) := by
  obtain ⟨v, h1, h2, h3⟩ := h
  exact (append_any h1 hs hA hn).mono fun e w' h4 => ⟨h4.1, Beside.left h1 h2 h3 h4.2⟩
theorem b_full (h : Beside w0 P sz d l S w) (A : Option Addr) (n c : Nat) (hn : sz < l.length + n) : Calls Try.prog 13 #[.pointer (some ⟨P, 0, none⟩), .slice A n c] w fun e w' => e = .returned (.int .i64 4) ∧ w = w' := by
  obtain ⟨v, h1, _⟩ := h
  exact append_full h1 A n c hn
theorem b_sync (h : Beside w0 P sz d l S w) : Calls Try.prog 15 #[.pointer (some ⟨P, 0, none⟩)] w fun e w' => e = .returned (.tuple #[]) ∧ Hid (Beside w0 P sz l.length l S w' ∧ ∀ b, S b → w'.heap[b]? = w.heap[b]?) := by
  obtain ⟨v, h1, h2, h3⟩ := h
  exact (sync_any h1).mono fun e w' h4 => ⟨h4.1, Beside.left h1 h2 h3 ⟨v, h4.2.out.1, h4.2.out.2⟩⟩
theorem b_erase (h : Beside w0 P sz d l S w) : Calls Try.prog 19 #[.pointer (some ⟨P, 0, none⟩)] w fun e w' => e = .returned (.tuple #[]) ∧ Hid (Beside w0 P sz 0 [] S w' ∧ ∀ b, S b → w'.heap[b]? = w.heap[b]?) := by
  obtain ⟨v, h1, h2, h3⟩ := h
  exact (erase_any h1).mono fun e w' h4 => ⟨h4.1, Beside.left h1 h2 h3 ⟨_, h4.2.out.1, h4.2.out.2⟩⟩
theorem b_crash (h : Beside w0 P sz d l S w) (k : Nat) (hk : k < 9223372036854775808) : Calls Try.prog 17 #[.pointer (some ⟨P, 0, none⟩), .int .i64 (k : Nat)] w fun e w' => e = .returned (.int .i64 0) ∧ Hid (Beside w0 P sz (kept d k l.length) (l.take (kept d k l.length)) S w' ∧ ∀ b, S b → w'.heap[b]? = w.heap[b]?) := by
  obtain ⟨v, h1, h2, h3⟩ := h
  exact (crash_any h1 k hk).mono fun e w' h4 => ⟨h4.1, Beside.left h1 h2 h3 h4.2⟩
theorem b_crash_arg (h : Beside w0 P sz d l S w) (i : Int) (hi : i < 0) : Calls Try.prog 17 #[.pointer (some ⟨P, 0, none⟩), .int .i64 i] w fun e w' => e = .returned (.int .i64 2) ∧ w = w' := by
  obtain ⟨v, h1, _⟩ := h
  exact crash_arg h1 i hi
theorem b_read (h : Beside w0 P sz d l S w) (i j : Nat) (hij : i + j ≤ l.length) : Calls Try.prog 27 #[.pointer (some ⟨P, 0, none⟩), .int .i64 (i : Nat), .int .i64 (j : Nat)] w fun e w' => ∃ R, e = .returned (.tuple #[.slice (some ⟨R, 0, none⟩) j j, .int .i64 0]) ∧
    Hid (w'.ownsRow w.heap.size 5 1 (.slice (some ⟨R, 0, none⟩) j j) j (vs ((l.drop i).take j)) ∧ Below w.heap.size w w' ∧ w.heap.size ≤ R ∧ R < w'.heap.size) := by
  obtain ⟨v, h1, _⟩ := h
  refine (read_any h1 i j hij).mono ?_
  rintro e w' ⟨rfl, h⟩
  exact ⟨_, rfl, h.out.1, h.out.2, h.out.1.lt _ rfl⟩
theorem b_read_out (h : Beside w0 P sz d l S w) (i j : Int) (hi2 : i < 9223372036854775808) (hij : i < 0 ∨ j < 0 ∨ (l.length : Int) < i + j) : Calls Try.prog 27 #[.pointer (some ⟨P, 0, none⟩), .int .i64 i, .int .i64 j] w fun e w' => e = .returned (.tuple #[.slice none 0 0, .int .i64 3]) ∧ w = w' := by
  obtain ⟨v, h1, _⟩ := h
  exact read_out h1 i j hi2 hij
theorem b_len (h : Beside w0 P sz d l S w) : Calls Try.prog 33 #[.pointer (some ⟨P, 0, none⟩)] w fun e w' => e = .returned (.int .i64 (l.length : Nat)) ∧ w = w' := by
  obtain ⟨v, h1, _⟩ := h
  exact len_any h1
theorem b_durable (h : Beside w0 P sz d l S w) : Calls Try.prog 26 #[.pointer (some ⟨P, 0, none⟩)] w fun e w' => e = .returned (.int .i64 (d : Nat)) ∧ w = w' := by
  obtain ⟨v, h1, _⟩ := h
  exact durable_any h1
theorem b_room (h : Beside w0 P sz d l S w) : Calls Try.prog 29 #[.pointer (some ⟨P, 0, none⟩)] w fun e w' => e = .returned (.int .i64 ((sz - l.length : Nat) : Int)) ∧ w = w' := by
  obtain ⟨v, h1, _⟩ := h
  exact room_any h1
theorem b_size (h : Beside w0 P sz d l S w) : Calls Try.prog 30 #[.pointer (some ⟨P, 0, none⟩)] w fun e w' => e = .returned (.int .i64 (sz : Nat)) ∧ w = w' := by
  obtain ⟨v, h1, _⟩ := h
  exact size_any h1
theorem b_copy (h : Beside w0 P sz d l S w) : Calls Try.prog 21 #[.pointer (some ⟨P, 0, none⟩)] w fun e w' => e = .returned (.pointer (some ⟨w.heap.size, 0, none⟩)) ∧ Hid (Beside w w.heap.size sz d l (fun b => b < w.heap.size) w' ∧ Below w.heap.size w w') := by
  obtain ⟨v, h1, _⟩ := h
  refine (copy_any h1).mono ?_
  rintro e w' ⟨rfl, h2⟩
  obtain ⟨v', h3, h4⟩ := h2.out
  exact ⟨rfl, ⟨v', h3, h4, fun b hb => ⟨fun hF => by have := h3.foot_le b hF; omega, Nat.lt_of_lt_of_le hb h4.size⟩⟩, h4⟩
end
/-- A row that a read gave, as a slice. -/
theorem row_sb {w : World} {B b n c : Nat} {l : List E} (h : w.ownsRow B 5 1 (.slice (some ⟨b, 0, none⟩) n c) n (vs l)) : SB w (some ⟨b, 0, none⟩) n l := by
  have hl : l.length = n := by have := h.1; rw [length_vs] at this; omega
  exact ⟨hl, fun _ => ⟨_, rfl, fun i x hx => h.cells (g := b) rfl i _ (vs_some hx)⟩⟩
theorem row_lt {w : World} {B b n c : Nat} {l : List E} (h : w.ownsRow B 5 1 (.slice (some ⟨b, 0, none⟩) n c) n (vs l)) : B ≤ b ∧ b < w.heap.size := h.lt b rfl
theorem lit_sb (W : World) (l : List E) {n : Nat} (hl : l.length = n) : SB (W.alloc (.cells (vs l).toArray 5)) (some ⟨W.heap.size, 0, none⟩) n l := SB.of_row hl (World.alloc_heap_new W _)
theorem lit_b (W : World) (o : Obj) : Below W.heap.size W (W.alloc o) := (Below.refl _ W).alloc (Nat.le_refl _) _
theorem two_more (w : World) (a b : Obj) : ∀ W, W = (w.alloc a).alloc b → W.heap[w.heap.size]? = some a ∧ W.heap[w.heap.size + 1]? = some b ∧ Below w.heap.size w W := by
  rintro W rfl
  refine ⟨?_, ?_, ((Below.refl _ w).alloc (Nat.le_refl _) _).alloc (by simp) _⟩
  · exact (Below.heap_alloc _ _ _ (by simp)).trans (World.alloc_heap_new w a)
  · have := World.alloc_heap_new (w.alloc a) b
    rwa [World.size_alloc] at this
end Go.Proofs.Ytaohlblhfmlpbaa
