/- What the laws' helpers say of maps that are not valid. -/
import Derived.Test.YtbcakennmnjlcaaSSNear
import Derived.Test.YtbcakennmnjlcaaSSDel
import Derived.Test.YtbcakennmnjlcaaRefFrom
import Derived.Test.YtbcakennmnjlcaaLib
namespace Go.Proofs.Ytbcakennmnjlcaa
open Go.RowKit Go.Shelf Go.Sort Go.Lib
attribute [local go_sem] Oper.semAt_some

/-- A map that is not valid reads as an empty one. -/
theorem SS.Bad.has {w : World} {p : Option Addr} (h : SS.Bad w p) : SS.Has w p none 0 [] := SS.Has.bad h

set_option maxRecDepth 100000 in
set_option maxHeartbeats 4000000 in
/-- pairs of an iterator that yields nothing. -/
theorem pairs_none (gf : Nat) (lb : Array Value) (n₀ : Nat) (w0 w : World) (hn : n₀ ≤ w.heap.size) (hb0 : Below w0.heap.size w0 w) (eg : ∀ args w, (callFunc gf args).run Try.prog w = .ok (.enter gf args) w)
    (hseq : ∀ n, SeqStopsK Fence.wide n Try.prog gf lb SS.encs (Below n₀) (fun ys => ys = []) (fun pre => pre <+: []) 0 w0) :
    Calls Try.prog 83 #[.func (.func gf) #[] lb, .int .i64 1] w fun e w' => e = .returned (.tuple #[.slice none 0 0, .slice none 0 0]) ∧ Below w.heap.size w w' := by
  refine (callsIn_wide (n := 3)).1 ?_
  refine callsIn_of_wp_marks Try.func83 rfl trivial ?_ rfl
  simp only [Try.ntmps83, List.size_toArray, List.length_cons, List.length_nil, Nat.reduceAdd, Nat.reduceSub, Array.replicate_succ, Array.replicate_zero, List.push_toArray, List.append_toArray, List.nil_append, List.cons_append]
  have t1 : Fence.wide.fn 141 := trivial
  gi_wp2_with (gi_at_call 141; refine (callsIn_wide.2 (SS.two_any _ _ _)).mono ?_; rintro e w' ⟨rfl, rfl⟩)
  have b0 := Boxed.new w 3 (.int .i64 1)
  have b1 := Boxed.new (w.alloc (.cells #[.int .i64 1] 3)) 118 (.slice none 0 0)
  have b2 := Boxed.new ((w.alloc (.cells #[.int .i64 1] 3)).alloc (.cells #[.slice none 0 0] 118)) 118 (.slice none 0 0)
  simp only [World.size_alloc] at b1 b2
  have hB0 : Below w.heap.size w (((w.alloc (.cells #[.int .i64 1] 3)).alloc (.cells #[.slice none 0 0] 118)).alloc (.cells #[.slice none 0 0] 118)) := (((Below.refl _ w).alloc (Nat.le_refl _) _).alloc (by simp) _).alloc (by simp; omega) _
  refine wpIn_rangeFunc_ownF rfl (by omega) (gf := gf) (lb := lb) rfl trivial eg (hseq 2) belowK_t (belowK_b (by simp; omega)) (hb0.trans (hB0.mono hb0.size)) (fun _ => rfl)
    (fun (_ : List (SS.K × SS.V)) W => (Boxed W (w.heap.size + 1) 118 (.slice none 0 0) ∧ Boxed W (w.heap.size + 1 + 1) 118 (.slice none 0 0)) ∧ Below w.heap.size w W)
    (fun _ _ _ => False)
    (OwnFrom.and (Own.from (fun s A B row hs hg hr => ⟨boxed_own _ _ (fun _ : Unit => Value.slice none 0 0) () A B row hs.1 hg hr, boxed_own _ _ (fun _ : Unit => Value.slice none 0 0) () A B row hs.2 hg hr⟩) _) (ownFrom_below (Nat.le_refl _) (by simp; omega)))
    (fun _ _ _ _ _ hs _ _ => hs)
    ⟨⟨b1.alloc _, b2⟩, hB0⟩
    ?a1 ?assign ?body ?done ?stop
  case assign =>
    intro l x W K hK
    unfold SS.encs
    gi_wp2
    exact hK
  case body =>
    intro l pre x W _ hlt
    exact absurd hlt (Nat.not_lt_zero _)
  case done =>
    rintro D ys W hD rfl ⟨⟨h1, h2⟩, hB⟩ hK
    have q1 := h1.cell
    have q2 := h2.cell
    gi_wp2
    gi_region
    all_goals gi_wp2
    all_goals
      have hK' : W.drew.heap[D]? = some (.deferred (some [])) := hK
      refine ⟨by simp, .inl ⟨_, _, rfl, run_takeDeferred hK', ?_⟩⟩
      exact ⟨_, results_tmp2 rfl _ _ _, rfl, hB.drew.trans (belowK_b (w := w) (Nat.le_refl _) W.drew D _ _ (by simp at hD; omega) hK' rfl rfl)⟩
  case stop =>
    rintro D c pre W _ _ h _
    exact h.elim

section
variable {p : Option Addr} {w : World}
theorem pairs_all_nil (b : Nat) (h : SS.Bad w p) (hm : w.cell? ⟨b, 0, none⟩ = some (.pointer p)) :
    Calls Try.prog 83 #[.func (.func 142) #[] #[.pointer (some ⟨b, 0, none⟩)], .int .i64 1] w fun e w' => e = .returned (.tuple #[.slice none 0 0, .slice none 0 0]) ∧ Below w.heap.size w w' :=
  pairs_none _ _ w.heap.size w w (Nat.le_refl _) (Below.refl _ _) (enters_of Try.func142 (by kernel_rfl) rfl)
    (fun n => SS.all_stops n w.heap.size b p none 0 [] w hm h.has (SS.under_none _) (Nat.le_refl _))
theorem pairs_from_nil (b b' : Nat) (k : ByteArray) (h : SS.Bad w p) (hm : w.cell? ⟨b, 0, none⟩ = some (.pointer p)) (hk : w.cell? ⟨b', 0, none⟩ = some (.string k)) :
    Calls Try.prog 83 #[.func (.func 144) #[] #[.pointer (some ⟨b, 0, none⟩), .pointer (some ⟨b', 0, none⟩)], .int .i64 1] w fun e w' => e = .returned (.tuple #[.slice none 0 0, .slice none 0 0]) ∧ Below w.heap.size w w' :=
  pairs_none _ _ w.heap.size w w (Nat.le_refl _) (Below.refl _ _) (enters_of Try.func144 (by kernel_rfl) rfl)
    (fun n => SS.from_stops n w.heap.size b b' p none 0 [] k w hm hk h.has (SS.under_none _) (Nat.le_refl _))
theorem eq_nil (w : World) : Calls Try.prog 86 #[.slice none 0 0, .slice none 0 0] w fun e w' => e = .returned (.bool true) ∧ w = w' :=
  (Try.slices_Equal_string_empty none none 0 0 0 w (by decide)).mono fun e w' h => ⟨h.1, h.2.symm⟩
/-- The answers of a map that is not valid. -/
abbrev no3 : Value := .tuple #[.string ⟨#[]⟩, .string ⟨#[]⟩, .bool false]
theorem bfloor (h : SS.Bad w p) (k : ByteArray) : Calls Try.prog 70 #[.pointer p, .string k] w fun e w' => e = .returned no3 ∧ Below w.heap.size w w' := SS.floor_any p none 0 [] k w h.has
theorem bceil (h : SS.Bad w p) (k : ByteArray) : Calls Try.prog 72 #[.pointer p, .string k] w fun e w' => e = .returned no3 ∧ Below w.heap.size w w' := SS.ceil_any p none 0 [] k w h.has (SS.under_none _)
theorem bmin (h : SS.Bad w p) : Calls Try.prog 74 #[.pointer p] w fun e w' => e = .returned no3 ∧ Below w.heap.size w w' := SS.min_any p none 0 [] w h.has (SS.under_none _)
theorem bmax (h : SS.Bad w p) : Calls Try.prog 76 #[.pointer p] w fun e w' => e = .returned no3 ∧ Below w.heap.size w w' := SS.max_any p none 0 [] w h.has
theorem bget (h : SS.Bad w p) (k : ByteArray) : Calls Try.prog 79 #[.pointer p, .string k] w fun e w' => e = .returned (.tuple #[.string ⟨#[]⟩, .bool false]) ∧ Below w.heap.size w w' := SS.get_any p none 0 [] k w h.has
theorem bdel (h : SS.Bad w p) (k : ByteArray) : Calls Try.prog 15 #[.pointer p, .string k] w fun e w' => e = .returned (.tuple #[.string ⟨#[]⟩, .bool false]) ∧ Below w.heap.size w w' := SS.del_none p none 0 [] k w h.has rfl
theorem blen (h : SS.Bad w p) : Calls Try.prog 80 #[.pointer p] w fun e w' => e = .returned (.int .i64 0) ∧ w = w' := SS.len_any p none 0 [] w h.has
theorem brank (h : SS.Bad w p) (k : ByteArray) : Calls Try.prog 82 #[.pointer p, .string k] w fun e w' => e = .returned (.int .i64 0) ∧ Below w.heap.size w w' := SS.rank_any p none 0 [] k w h.has
end
set_option maxHeartbeats 400000 in
theorem copy_bad (p : Option Addr) (w : World) (h : SS.Bad w p) : Calls Try.prog 17 #[.pointer p] w fun e w' => e = .returned (.pointer none) ∧ w = w' := by
  have g := Lib.hid h
  clear h
  go_enter Try.func17, Try.ntmps17
  go_wp2_with (go_at_call 62; refine (SS.valid_bad _ _ g.out).mono ?_; rintro e w' ⟨rfl, rfl⟩)
  go_ret
  exact ⟨rfl, rfl⟩

/-- All and From, with their boxes somewhere. -/
theorem all_told (p : Option Addr) (w : World) : Calls Try.prog 84 #[.pointer p] w fun e w' => ∃ b, e = .returned (.func (.func 142) #[] #[.pointer (some ⟨b, 0, none⟩)]) ∧ Hid (w'.cell? ⟨b, 0, none⟩ = some (.pointer p)) ∧ Below w.heap.size w w' := by
  refine (SS.all_any p w).mono ?_
  rintro e w' ⟨rfl, rfl⟩
  exact ⟨_, rfl, cell_new_sl w _ _, (Below.refl _ w).alloc (Nat.le_refl _) _⟩
theorem from_told (p : Option Addr) (k : ByteArray) (w : World) : Calls Try.prog 87 #[.pointer p, .string k] w fun e w' => ∃ b b', e = .returned (.func (.func 144) #[] #[.pointer (some ⟨b, 0, none⟩), .pointer (some ⟨b', 0, none⟩)]) ∧ Hid (w'.cell? ⟨b, 0, none⟩ = some (.pointer p) ∧ w'.cell? ⟨b', 0, none⟩ = some (.string k)) ∧ Below w.heap.size w w' := by
  refine (SS.from_any p k w).mono ?_
  rintro e w' ⟨rfl, rfl⟩
  refine ⟨_, _, rfl, ⟨cell_alloc_sl _ (cell_new_sl w _ _), ?_⟩, ((Below.refl _ w).alloc (Nat.le_refl _) _).alloc (by simp) _⟩
  have := cell_new_sl (w.alloc (.cells #[.pointer p] 24)) (.string k) 9
  rwa [World.size_alloc] at this

set_option maxRecDepth 1000000 in
set_option maxHeartbeats 8000000 in
/-- shows of two maps that are not valid. -/
theorem shows_bad (p : Option Addr) (k : ByteArray) (i : Int) (w : World) (h : SS.Bad w p) :
    Calls Try.prog 19 #[.pointer p, .pointer none, .string k, .int .i64 i] w fun e w' => e = .returned (.bool true) ∧ Below w.heap.size w w' := by
  have gb := Lib.hid h
  have gB := Lib.hid (Below.refl w.heap.size w)
  clear h
  go_enter Try.func19, Try.ntmps19
  go_wp2_with (first
    | (go_at_call 70; refine (bfloor gb.out _).mono ?_; rintro e w' ⟨rfl, hB⟩; have gb' := Lib.hid (gb.out.below hB); have gB' := Lib.hid (gB.out.trans (hB.mono gB.out.size)); clear hB gb gB; have gb := gb'; have gB := gB'; clear gb' gB')
    | (go_at_call 71; refine (rfloor_nil _ _).mono ?_; rintro e w' ⟨rfl, rfl⟩)
    | (go_at_call 72; refine (bceil gb.out _).mono ?_; rintro e w' ⟨rfl, hB⟩; have gb' := Lib.hid (gb.out.below hB); have gB' := Lib.hid (gB.out.trans (hB.mono gB.out.size)); clear hB gb gB; have gb := gb'; have gB := gB'; clear gb' gB')
    | (go_at_call 73; refine (rceil_nil _ _).mono ?_; rintro e w' ⟨rfl, rfl⟩)
    | (go_at_call 74; refine (bmin gb.out).mono ?_; rintro e w' ⟨rfl, hB⟩; have gb' := Lib.hid (gb.out.below hB); have gB' := Lib.hid (gB.out.trans (hB.mono gB.out.size)); clear hB gb gB; have gb := gb'; have gB := gB'; clear gb' gB')
    | (go_at_call 75; refine (rmin_nil _).mono ?_; rintro e w' ⟨rfl, rfl⟩)
    | (go_at_call 76; refine (bmax gb.out).mono ?_; rintro e w' ⟨rfl, hB⟩; have gb' := Lib.hid (gb.out.below hB); have gB' := Lib.hid (gB.out.trans (hB.mono gB.out.size)); clear hB gb gB; have gb := gb'; have gB := gB'; clear gb' gB')
    | (go_at_call 77; refine (rmax_nil _).mono ?_; rintro e w' ⟨rfl, rfl⟩)
    | (go_at_call 21; refine (SS.at_bad _ _ _ gb.out).mono ?_; rintro e w' ⟨rfl, hB⟩; have gb' := Lib.hid (gb.out.below hB); have gB' := Lib.hid (gB.out.trans (hB.mono gB.out.size)); clear hB gb gB; have gb := gb'; have gB := gB'; clear gb' gB')
    | (go_at_call 78; refine (rAt_nil _ _).mono ?_; rintro e w' ⟨rfl, rfl⟩)
    | (go_at_call 79; refine (bget gb.out _).mono ?_; rintro e w' ⟨rfl, hB⟩; have gb' := Lib.hid (gb.out.below hB); have gB' := Lib.hid (gB.out.trans (hB.mono gB.out.size)); clear hB gb gB; have gb := gb'; have gB := gB'; clear gb' gB')
    | (go_at_call 68; refine (rget_nil _ _).mono ?_; rintro e w' ⟨rfl, rfl⟩)
    | (go_at_call 80; refine (blen gb.out).mono ?_; rintro e w' ⟨rfl, rfl⟩)
    | (go_at_call 81; refine (rlen_nil _).mono ?_; rintro e w' ⟨rfl, rfl⟩)
    | (go_at_call 82; refine (brank gb.out _).mono ?_; rintro e w' ⟨rfl, hB⟩; have gb' := Lib.hid (gb.out.below hB); have gB' := Lib.hid (gB.out.trans (hB.mono gB.out.size)); clear hB gb gB; have gb := gb'; have gB := gB'; clear gb' gB')
    | (go_at_call 20; refine (rrank_nil _ _).mono ?_; rintro e w' ⟨rfl, rfl⟩)
    | (go_at_call 85; refine (rfrom_nil _ _).mono ?_; rintro e w' ⟨rfl, rfl⟩)
    | (go_at_call 86; refine (eq_nil _).mono ?_; rintro e w' ⟨rfl, rfl⟩)
    | (go_at_call 84; refine (all_told _ _).mono ?_; rintro e w' ⟨b, rfl, cm, hB⟩; have gb' := Lib.hid (gb.out.below hB); have gB' := Lib.hid (gB.out.trans (hB.mono gB.out.size)); clear hB gb gB; have gb := gb'; have gB := gB'; clear gb' gB')
    | (go_at_call 87; refine (from_told _ _ _).mono ?_; rintro e w' ⟨b, b', rfl, cn, hB⟩; have gb' := Lib.hid (gb.out.below hB); have gB' := Lib.hid (gB.out.trans (hB.mono gB.out.size)); clear hB gb gB; have gb := gb'; have gB := gB'; clear gb' gB')
    | (go_at_call 83; refine (pairs_from_nil _ _ k gb.out cn.out.1 cn.out.2).mono ?_; rintro e w' ⟨rfl, hB⟩; have gb' := Lib.hid (gb.out.below hB); have gB' := Lib.hid (gB.out.trans (hB.mono gB.out.size)); clear hB gb gB; have gb := gb'; have gB := gB'; clear gb' gB')
    | (go_at_call 83; refine (pairs_all_nil _ gb.out cm.out).mono ?_; rintro e w' ⟨rfl, hB⟩; have gb' := Lib.hid (gb.out.below hB); have gB' := Lib.hid (gB.out.trans (hB.mono gB.out.size)); clear hB gb gB; have gb := gb'; have gB := gB'; clear gb' gB'))
  go_ret
  exact ⟨rfl, gB.out⟩
end Go.Proofs.Ytbcakennmnjlcaa
