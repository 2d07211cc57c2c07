/- Next, Lowest. -/
import Derived.Test.YtpdipcgchhibeaaIter
import Derived.Laws.ResultCell
import Derived.Maps.OwnIn
namespace Go.Proofs.Ytpdipcgchhibeaa
open Go.RowKit Go.Shelf
attribute [local go_sem] Oper.semAt_some
theorem boxed_steady {β : Type} {B k : Nat} {t : TypeId} (f : β → Value) (h : k < B) : Steady B (fun s _ W => Boxed W k t (f s)) := fun _ _ _ _ hs hc => (hc.block k (lt_of_heap hs) (fun h2 => by have := h2.1; omega)).trans hs
theorem but_steady {β : Type} {B : Nat} {G : Nat → Prop} {V : World} (h : V.heap.size ≤ B) : Steady B (fun (_ : β) _ U => But G V U) := fun _ _ _ _ hs hc =>
  ⟨hc.os.trans hs.os, hc.tape.trans hs.tape, hc.output.trans hs.output, Nat.le_trans hs.size hc.size, fun b hb hG => (hc.block b (Nat.lt_of_lt_of_le hb hs.size) (fun h2 => by have := h2.1; omega)).trans (hs.block b hb hG)⟩
theorem pure_steady {β : Type} {B : Nat} (p : β → Prop) : Steady B (fun s _ (_ : World) => p s) := fun _ _ _ _ hs _ => hs
theorem foot_steady {β : Type} {B : Nat} (G : Nat → Prop) : Steady B (fun (_ : β) F _ => F = G) := fun _ _ _ _ hs _ => hs
/-- The least slot from f on; whether there is one. -/
def found (m : Nat) (f : Int) : Option Nat := (sl m).find? fun i => decide (f ≤ (i : Int))
def nxt (m : Nat) (f : Int) : Nat := (found m f).getD 0
def nok (m : Nat) (f : Int) : Bool := (found m f).isSome
theorem found_at {m : Nat} {f : Int} {pre : List Nat} {x : Nat} (hp : pre ++ [x] <+: sl m) (hl : ∀ y ∈ pre, (y : Int) < f) (hx : f ≤ (x : Int)) : found m f = some x := by
  obtain ⟨t, ht⟩ := hp
  unfold found
  rw [← ht, List.append_assoc, List.find?_append, List.find?_eq_none.2 (fun y hy => by have := hl y hy; simp; omega)]
  simp [hx]
theorem found_none {m : Nat} {f : Int} (hl : ∀ y ∈ sl m, (y : Int) < f) : found m f = none := List.find?_eq_none.2 (fun y hy => by have := hl y hy; simp; omega)
/-- What stands at a loop of Next. -/
def Look (f : Int) (z : Nat) (V : World) (pre : List Nat) (F : Nat → Prop) (U : World) : Prop := F = (fun b => b = z + 1 ∨ b = z + 2) ∧ But (fun b => b = z + 1 ∨ b = z + 2) V U ∧ Boxed U z 3 (.int .i64 f) ∧ Boxed U (z + 1) 3 (.int .i64 0) ∧ Boxed U (z + 2) 4 (.bool false) ∧ ∀ y ∈ pre, (y : Int) < f
def Seen (m : Nat) (f : Int) (z : Nat) (V : World) (cc : Code) (_ : List Nat) (_ : Nat → Prop) (U : World) : Prop := cc = .ret ∧ But (fun b => b = z + 1 ∨ b = z + 2) V U ∧ Boxed U (z + 1) 3 (.int .i64 (nxt m f : Nat)) ∧ Boxed U (z + 2) 4 (.bool true) ∧ nok m f = true
theorem look_steady {f : Int} {z : Nat} {V : World} (h : V.heap.size = z + 4) : Steady V.heap.size (Look f z V) := fun s F A C hs hc =>
  ⟨hs.1, but_steady (β := List Nat) (Nat.le_refl _) s F A C hs.2.1 hc, boxed_steady (β := List Nat) (fun _ => .int .i64 f) (by omega) s F A C hs.2.2.1 hc, boxed_steady (β := List Nat) (fun _ => .int .i64 0) (by omega) s F A C hs.2.2.2.1 hc, boxed_steady (β := List Nat) (fun _ => .bool false) (by omega) s F A C hs.2.2.2.2.1 hc, hs.2.2.2.2.2⟩
theorem seen_steady {m : Nat} {f : Int} {z : Nat} {V : World} (h : V.heap.size = z + 4) (cc : Code) : Steady V.heap.size (Seen m f z V cc) := fun s F A C hs hc =>
  ⟨hs.1, but_steady (β := List Nat) (Nat.le_refl _) s F A C hs.2.1 hc, boxed_steady (β := List Nat) (fun _ => .int .i64 (nxt m f : Nat)) (by omega) s F A C hs.2.2.1 hc, boxed_steady (β := List Nat) (fun _ => .bool true) (by omega) s F A C hs.2.2.2.1 hc, hs.2.2.2.2⟩
set_option maxRecDepth 100000 in
set_option maxHeartbeats 4000000 in
theorem next_any {w : World} {p : Option Addr} {m : Nat} (hG : Gives w p m) (hm : m < 17179869184) (f : Int) :
    Calls Try.prog 25 #[.pointer p, .int .i64 f] w fun e w' => e = .returned (.tuple #[.int .i64 (nxt m f : Nat), .bool (nok m f)]) ∧ Below w.heap.size w w' := by
  have gG := Lib.hid hG
  have gm := Lib.hid hm
  clear hG hm
  refine (callsIn_wide (n := 6)).1 ?_
  refine callsIn_of_wp_marks Try.func25 rfl trivial ?_ rfl
  simp only [Try.ntmps25, List.size_toArray, List.length_cons, List.length_nil, Nat.reduceAdd, Nat.reduceSub, Array.replicate_succ, Array.replicate_zero, List.push_toArray, List.append_toArray, List.nil_append, List.cons_append]
  have t1 : Fence.wide.fn 39 := trivial
  gi_wp2_with fail
  refine (callsIn_wide.2 (all_any _ _)).mono ?_
  rintro e w' ⟨rfl, rfl⟩
  gi_wp2_with fail
  obtain ⟨z, hz⟩ : ∃ z, z = w.heap.size := ⟨_, rfl⟩
  obtain ⟨V, hV⟩ : ∃ V, V = (((w.alloc (.cells #[.int .i64 f] 3)).alloc (.cells #[.int .i64 0] 3)).alloc (.cells #[.bool false] 4)).alloc (.cells #[.pointer p] 27) := ⟨_, rfl⟩
  have hVz : V.heap.size = z + 4 := by rw [hV, hz]; simp
  have hwV : Below w.heap.size w V := by rw [hV]; exact ((((Below.refl _ w).alloc (Nat.le_refl _) _).alloc (by simp) _).alloc (by simp; omega) _).alloc (by simp; omega) _
  have b0 : Boxed V z 3 (.int .i64 f) := by
    rw [hV, hz]
    exact (((Boxed.new w 3 _).alloc _).alloc _).alloc _
  have b1 : Boxed V (z + 1) 3 (.int .i64 0) := by
    rw [hV, hz]
    have h := ((Boxed.new (w.alloc (.cells #[.int .i64 f] 3)) 3 (.int .i64 0)).alloc (.cells #[.bool false] 4)).alloc (.cells #[.pointer p] 27)
    rwa [World.size_alloc] at h
  have b2 : Boxed V (z + 2) 4 (.bool false) := by
    rw [hV, hz]
    have h := (Boxed.new ((w.alloc (.cells #[.int .i64 f] 3)).alloc (.cells #[.int .i64 0] 3)) 4 (.bool false)).alloc (.cells #[.pointer p] 27)
    rwa [World.size_alloc, World.size_alloc] at h
  have b3 : Boxed V (z + 3) 27 (.pointer p) := by
    rw [hV, hz]
    have h := Boxed.new (((w.alloc (.cells #[.int .i64 f] 3)).alloc (.cells #[.int .i64 0] 3)).alloc (.cells #[.bool false] 4)) 27 (.pointer p)
    rwa [World.size_alloc, World.size_alloc, World.size_alloc] at h
  have hseq := all_foot 5 (z + 3) p z m V b3.cell (gG.out.below hwV) (by rw [hVz]; omega) gm.out
  rw [← hV]
  have gw := Lib.hid hwV
  have gz := Lib.hid hz
  rw [← hz]
  clear hV hwV hz gG b3
  refine range_foot (by omega) (gf := 49) (lb := #[.pointer (some ⟨z + 3, 0, none⟩)]) rfl (enters_of Try.func49 (by kernel_rfl) rfl) hseq (Below.refl _ _) (by rw [hVz]; omega) (fun _ _ => rfl)
    (Look f z V) (Seen m f z V) (look_steady hVz) (seen_steady hVz) (fun b => b = z + 1 ∨ b = z + 2) (fun b hb => by rw [hVz]; omega) ⟨rfl, But.refl _ _, b0, b1, b2, fun y hy => nomatch hy⟩
    ?a1 ?assigned ?round ?done ?stop
  case assigned =>
    intro lr pre x U K hK
    unfold encN
    gi_wp2
    exact hK
  case round =>
    rintro lr pre x F U ⟨rfl, hVU, h0, h1, h2, hl⟩ hF hp _
    have k0 := h0.cell
    have f1 := h1.frozen
    have k1 := h1.cell
    have h2' : Boxed (U.setCell ⟨z + 1, 0, none⟩ (.int .i64 (x : Nat))) (z + 2) 4 (.bool false) := (Below.heap_setCell _ _ _ (z + 2) (by simp)).trans h2
    have f2 := h2'.frozen
    have k2 := h2'.cell
    by_cases hx : f ≤ (x : Int)
    · have hfd := found_at hp hl hx
      have en : nxt m f = x := by unfold nxt; rw [hfd]; rfl
      have eo : nok m f = true := by unfold nok; rw [hfd]; rfl
      have gE := Lib.hid (show ∃ F', Turn (fun b => b = z + 1 ∨ b = z + 2) F' U ((U.setCell ⟨z + 1, 0, none⟩ (.int .i64 (x : Nat))).setCell ⟨z + 2, 0, none⟩ (.bool true)) ∧ Seen m f z V .ret (pre ++ [x]) F' ((U.setCell ⟨z + 1, 0, none⟩ (.int .i64 (x : Nat))).setCell ⟨z + 2, 0, none⟩ (.bool true)) from by
        have hB : But (fun b => b = z + 1 ∨ b = z + 2) U ((U.setCell ⟨z + 1, 0, none⟩ (.int .i64 (x : Nat))).setCell ⟨z + 2, 0, none⟩ (.bool true)) := ((But.refl _ U).setCell (.inl (.inl rfl)) _).setCell (.inl (.inr rfl)) _
        refine ⟨fun b => b = z + 1 ∨ b = z + 2, ⟨hB, fun _ h => .inl h⟩, rfl, hVU.trans hB, ?_, h2'.set _, eo⟩
        rw [en]
        exact (Below.heap_setCell _ _ _ (z + 1) (by simp)).trans (h1.set _))
      clear hVU h0 h1 h2 h2' hl hp hF hfd en eo hseq b0 b1 b2
      gi_wp2_with fail
      exact gE.out
    · have hx' : ¬ f ≤ (x : Int) := hx
      have gE := Lib.hid (show ∃ F', Turn (fun b => b = z + 1 ∨ b = z + 2) F' U U ∧ Look f z V (pre ++ [x]) F' U from
        ⟨_, Turn.refl _ _, rfl, hVU, h0, h1, h2, fun y hy => by
          rcases List.mem_append.1 hy with h | h
          · exact hl y h
          · rw [List.mem_singleton.1 h]; omega⟩)
      clear hVU h0 h1 h2 h2' hl hp hF hx hseq b0 b1 b2
      gi_wp2_with fail
      exact gE.out
  case done =>
    rintro D F U hD hFD hF ⟨rfl, hVU, h0, h1, h2, hl⟩ hK
    have hfd := found_none hl
    have en : nxt m f = 0 := by unfold nxt; rw [hfd]; rfl
    have eo : nok m f = false := by unfold nok; rw [hfd]; rfl
    have f1 := h1.frozen
    have k1 := h1.cell
    have h2' : Boxed (U.setCell ⟨z + 1, 0, none⟩ (.int .i64 0)) (z + 2) 4 (.bool false) := (Below.heap_setCell _ _ _ (z + 2) (by simp)).trans h2
    have f2 := h2'.frozen
    have k2 := h2'.cell
    obtain ⟨U2, hU2⟩ : ∃ U2, U2 = (U.setCell ⟨z + 1, 0, none⟩ (.int .i64 0)).setCell ⟨z + 2, 0, none⟩ (.bool false) := ⟨_, rfl⟩
    have hB2 : But (fun b => b = z + 1 ∨ b = z + 2) U U2 := by rw [hU2]; exact ((But.refl _ U).setCell (.inl (.inl rfl)) _).setCell (.inl (.inr rfl)) _
    have c1 : Boxed U2 (z + 1) 3 (.int .i64 0) := by rw [hU2]; exact (Below.heap_setCell _ _ _ (z + 1) (by simp)).trans (h1.set _)
    have c2 : Boxed U2 (z + 2) 4 (.bool false) := by rw [hU2]; exact h2'.set _
    have hK2 : U2.heap[D]? = some (.deferred (some [])) := (hB2.block D (lt_of_heap hK) (by rw [hVz] at hD; omega)).trans hK
    have hB3 : But (fun b => b = z + 1 ∨ b = z + 2 ∨ b = D) V (U2.putObj D (.deferred none)) := ((hVU.trans hB2).mono' fun b h => by rcases h with h | h; exact .inl h; exact .inr (.inl h)).trans (but_put U2 D _ (.inr (.inr rfl)))
    have gEnd := Lib.hid (show Below w.heap.size w (U2.putObj D (.deferred none)) from by
      have h1 := gz.out
      rw [hVz] at hD
      exact gw.out.trans (hB3.below (by rw [hVz]; omega) (fun b hb => by omega)))
    have cF1 := Boxed.cell (show Boxed (U2.putObj D (.deferred none)) (z + 1) 3 (.int .i64 0) from (World.putObj_heap_other (by rw [hVz] at hD; omega)).trans c1)
    have cF2 := Boxed.cell (show Boxed (U2.putObj D (.deferred none)) (z + 2) 4 (.bool false) from (World.putObj_heap_other (by rw [hVz] at hD; omega)).trans c2)
    have gK2 := Lib.hid hK2
    have gU2 := Lib.hid hU2
    have gen := Lib.hid (show Ending.returned (.tuple #[.int .i64 0, .bool false]) = Ending.returned (.tuple #[.int .i64 (nxt m f : Nat), .bool (nok m f)]) by rw [en, eo]; rfl)
    clear h0 h1 h2 h2' hl hVU hF hFD hD hK hB2 c1 c2 hK2 hB3 hU2 hfd en eo hseq b0 b1 b2
    gi_wp2_with fail
    rw [← gU2.out]
    refine ⟨by simp, .inl ⟨_, _, rfl, run_takeDeferred gK2.out, ?_⟩⟩
    refine ⟨.tuple #[.int .i64 0, .bool false], ?_, gen.out, gEnd.out⟩
    clear gEnd
    simp [results, Try.results25, go_sem, cF1, cF2]
  case stop =>
    rintro D cc pre F U hD hFD hF hp ⟨rfl, hVU, h1, h2, eo⟩ hK
    have hB3 : But (fun b => b = z + 1 ∨ b = z + 2 ∨ b = D) V (U.putObj D (.deferred none)) := (hVU.mono' fun b h => by rcases h with h | h; exact .inl h; exact .inr (.inl h)).trans (but_put U D _ (.inr (.inr rfl)))
    have gEnd := Lib.hid (show Below w.heap.size w (U.putObj D (.deferred none)) from by
      have h1 := gz.out
      rw [hVz] at hD
      exact gw.out.trans (hB3.below (by rw [hVz]; omega) (fun b hb => by omega)))
    have cF1 := Boxed.cell (show Boxed (U.putObj D (.deferred none)) (z + 1) 3 (.int .i64 (nxt m f : Nat)) from (World.putObj_heap_other (by rw [hVz] at hD; omega)).trans h1)
    have cF2 := Boxed.cell (show Boxed (U.putObj D (.deferred none)) (z + 2) 4 (.bool true) from (World.putObj_heap_other (by rw [hVz] at hD; omega)).trans h2)
    have gK := Lib.hid hK
    have gen := Lib.hid (show Ending.returned (.tuple #[.int .i64 (nxt m f : Nat), .bool true]) = Ending.returned (.tuple #[.int .i64 (nxt m f : Nat), .bool (nok m f)]) by rw [eo])
    clear h1 h2 hVU hF hFD hD hK hB3 hseq b0 b1 b2 eo hp
    gi_wp2_with fail
    refine ⟨by simp, .inl ⟨_, _, rfl, run_takeDeferred gK.out, ?_⟩⟩
    refine ⟨.tuple #[.int .i64 (nxt m f : Nat), .bool true], ?_, gen.out, gEnd.out⟩
    clear gEnd
    simp [results, Try.results25, go_sem, cF1, cF2]
theorem lowest_any {w : World} {p : Option Addr} {m : Nat} (hG : Gives w p m) (hm : m < 17179869184) :
    Calls Try.prog 27 #[.pointer p] w fun e w' => e = .returned (.tuple #[.int .i64 (nxt m 0 : Nat), .bool (nok m 0)]) ∧ Below w.heap.size w w' := by
  have gG := Lib.hid hG
  have gm := Lib.hid hm
  clear hG hm
  go_enter Try.func27, Try.ntmps27
  go_wp2_with fail
  refine (next_any gG.out gm.out 0).mono ?_
  rintro e w' ⟨rfl, hb⟩
  have gb := Lib.hid hb
  clear hb
  go_wp2_with fail
  go_ret2
  exact ⟨rfl, gb.out⟩
end Go.Proofs.Ytpdipcgchhibeaa
