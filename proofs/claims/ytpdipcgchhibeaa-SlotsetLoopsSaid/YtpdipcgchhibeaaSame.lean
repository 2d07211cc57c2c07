/- same: a set has just these slots. -/
import Derived.Test.YtpdipcgchhibeaaNext
import Derived.Deep.RegionHeld3
namespace Go.Proofs.Ytpdipcgchhibeaa
open Go.RowKit Go.Shelf
attribute [local go_sem] Oper.semAt_some
theorem eql_func (g : Nat) (lb : Array Value) (w : World) : (binOp .eql 62 (.func (.func g) #[] lb) .nilFunc).run Try.prog w = .ok (.bool false) w := by
  have h : ∀ d : Nat, (Op.equalIn (d + 1) 62 (.func (.func g) #[] lb) .nilFunc).run Try.prog w = .ok false w := fun d => by
    simp [Op.equalIn, run_underlying Try.underlying62]
  simp only [binOp]
  simp [Op.equal, Op.maxDepth, h 9999]
theorem yields_any (g : Nat) (lb : Array Value) (w : World) : Calls Try.prog 46 #[.func (.func g) #[] lb] w fun e w' => e = .returned (.func (.func g) #[] lb) ∧ w = w' := by
  have hq := eql_func g lb
  go_enter Try.func46, Try.ntmps46
  go_wp2
  go_ret
  exact ⟨rfl, rfl⟩
/-- A slice of slots that reads as a list. -/
def SL (w : World) (A : Option Addr) (l : List Nat) : Prop := 0 < l.length → ∃ b, A = some ⟨b, 0, none⟩ ∧ ∀ (i x : Nat), l[i]? = some x → w.cell? ⟨b, i, none⟩ = some (.int .i64 (x : Nat))
theorem SL.nil (w : World) (A : Option Addr) : SL w A [] := fun h => absurd h (by decide)
theorem SL.below {w w' : World} {A : Option Addr} {l : List Nat} (h : SL w A l) (hb : Below w.heap.size w w') : SL w' A l := fun hn => by
  obtain ⟨b, rfl, hc⟩ := h hn
  exact ⟨b, rfl, fun i x hx => (hb.cell (lt_of_cell (hc i x hx))).trans (hc i x hx)⟩
theorem SL.at {w : World} {A : Option Addr} {l : List Nat} (h : SL w A l) {i x : Nat} (hx : l[i]? = some x) : ∃ b, A = some ⟨b, 0, none⟩ ∧ w.cell? ⟨b, i, none⟩ = some (.int .i64 (x : Nat)) := by
  have := (List.getElem?_eq_some_iff.1 hx).1
  obtain ⟨b, hA, hc⟩ := h (by omega)
  exact ⟨b, hA, hc i x hx⟩
/-- What a pointer to a set shows. -/
structure Shows (w : World) (p : Option Addr) (m : Nat) : Prop where
  lt : m < 17179869184
  gives : Gives w p m
  has : ∀ W, Below w.heap.size w W → ∀ i ∈ sl m, Calls Try.prog 29 #[.pointer p, .int .i64 (i : Nat)] W fun e W' => e = .returned (.bool true) ∧ W = W'
  len : ∀ W, Below w.heap.size w W → Calls Try.prog 36 #[.pointer p] W fun e W' => e = .returned (.int .i64 ((sl m).length : Nat)) ∧ W = W'
theorem shows_own {w : World} {P n m : Nat} (h : SOwn w P n m) : Shows w (some ⟨P, 0, none⟩) m := by
  refine ⟨h.m34, gives_own h, fun W hW i hi => ?_, fun W hW => len_any (h.below hW)⟩
  have h1 := has_in (h.below hW) i (sl_lt h.lt (Nat.le_trans h.le (by decide)) hi)
  rw [(mem_sl h.lt (Nat.le_trans h.le (by decide))).1 hi] at h1
  exact h1
theorem shows_bad {w : World} {p : Option Addr} (h : Bad w p) : Shows w p 0 :=
  ⟨by decide, gives_bad h, (fun W _ i hi => by rw [sl_zero] at hi; cases hi), fun W hW => len_bad p W (h.below hW)⟩
theorem Shows.below {w w' : World} {p : Option Addr} {m : Nat} (h : Shows w p m) (hb : Below w.heap.size w w') : Shows w' p m :=
  ⟨h.lt, h.gives.below hb, fun W hW => h.has W (hb.trans (hW.mono hb.size)), fun W hW => h.len W (hb.trans (hW.mono hb.size))⟩
/-- What stands at the loop of same. -/
def Cmp (z : Nat) (V : World) (pre : List Nat) (F : Nat → Prop) (U : World) : Prop := F = (fun b => b = z) ∧ But (fun b => b = z) V U ∧ Boxed U z 3 (.int .i64 (pre.length : Nat))
theorem cmp_steady {z : Nat} {V : World} (h : z < V.heap.size) : Steady V.heap.size (Cmp z V) := fun s F A C hs hc =>
  ⟨hs.1, but_steady (β := List Nat) (Nat.le_refl _) s F A C hs.2.1 hc, boxed_steady (β := List Nat) (fun s => .int .i64 (s.length : Nat)) h s F A C hs.2.2 hc⟩
set_option maxRecDepth 100000 in
set_option maxHeartbeats 4000000 in
theorem same_any {w : World} {p A : Option Addr} {m c : Nat} {l : List Nat} (hS : Shows w p m) (hl : SL w A l) (he : l = sl m) :
    Calls Try.prog 33 #[.pointer p, .slice A l.length c] w fun e w' => e = .returned (.bool true) ∧ Below w.heap.size w w' := by
  have gS := Lib.hid hS
  have gl := Lib.hid hl
  have ge := Lib.hid he
  have hlen : l.length ≤ 34 := by rw [he]; exact sl_len (n := 34) hS.lt (by decide)
  obtain ⟨N, hN⟩ : ∃ N, N = l.length := ⟨_, rfl⟩
  have gN := Lib.hid hN
  rw [← hN] at hlen ⊢
  clear hS hl he hN
  refine (callsIn_wide (n := 6)).1 ?_
  refine callsIn_of_wp_marks Try.func33 rfl trivial ?_ rfl
  simp only [Try.ntmps33, List.size_toArray, List.length_cons, List.length_nil, Nat.reduceAdd, Nat.reduceSub, Array.replicate_succ, Array.replicate_zero, List.push_toArray, List.append_toArray, List.nil_append, List.cons_append]
  have t1 : Fence.wide.fn 39 := trivial
  have t2 : Fence.wide.fn 46 := trivial
  have t3 : Fence.wide.fn 29 := trivial
  gi_wp2_with fail
  refine (callsIn_wide.2 (all_any _ _)).mono ?_
  rintro e w' ⟨rfl, rfl⟩
  gi_wp2_with fail
  refine (callsIn_wide.2 (yields_any _ _ _)).mono ?_
  rintro e w' ⟨rfl, rfl⟩
  gi_wp2_with fail
  obtain ⟨z, hz⟩ : ∃ z, z = w.heap.size := ⟨_, rfl⟩
  obtain ⟨V, hV⟩ : ∃ V, V = ((((w.alloc (.cells #[.pointer p] 27)).alloc (.cells #[.slice A N c] 24)).alloc (.cells #[.bool false] 4)).alloc (.cells #[.int .i64 0] 3)).alloc (.cells #[.pointer p] 27) := ⟨_, rfl⟩
  have hVz : V.heap.size = z + 5 := by rw [hV, hz]; simp
  have hwV : Below w.heap.size w V := by rw [hV]; exact (((((Below.refl _ w).alloc (Nat.le_refl _) _).alloc (by simp) _).alloc (by simp; omega) _).alloc (by simp; omega) _).alloc (by simp; omega) _
  have b0 : Boxed V z 27 (.pointer p) := by
    rw [hV, hz]
    exact ((((Boxed.new w 27 _).alloc _).alloc _).alloc _).alloc _
  have b1 : Boxed V (z + 1) 24 (.slice A N c) := by
    rw [hV, hz]
    have h := (((Boxed.new (w.alloc (.cells #[.pointer p] 27)) 24 (.slice A N c)).alloc (.cells #[.bool false] 4)).alloc (.cells #[.int .i64 0] 3)).alloc (.cells #[.pointer p] 27)
    rwa [World.size_alloc] at h
  have b2 : Boxed V (z + 2) 4 (.bool false) := by
    rw [hV, hz]
    have h := ((Boxed.new ((w.alloc (.cells #[.pointer p] 27)).alloc (.cells #[.slice A N c] 24)) 4 (.bool false)).alloc (.cells #[.int .i64 0] 3)).alloc (.cells #[.pointer p] 27)
    rwa [World.size_alloc, World.size_alloc] at h
  have b3 : Boxed V (z + 3) 3 (.int .i64 (([] : List Nat).length : Nat)) := by
    rw [hV, hz]
    have h := (Boxed.new (((w.alloc (.cells #[.pointer p] 27)).alloc (.cells #[.slice A N c] 24)).alloc (.cells #[.bool false] 4)) 3 (.int .i64 0)).alloc (.cells #[.pointer p] 27)
    rwa [World.size_alloc, World.size_alloc, World.size_alloc] at h
  have b4 : Boxed V (z + 4) 27 (.pointer p) := by
    rw [hV, hz]
    have h := Boxed.new ((((w.alloc (.cells #[.pointer p] 27)).alloc (.cells #[.slice A N c] 24)).alloc (.cells #[.bool false] 4)).alloc (.cells #[.int .i64 0] 3)) 27 (.pointer p)
    rwa [World.size_alloc, World.size_alloc, World.size_alloc, World.size_alloc] at h
  have hseq := all_foot 5 (z + 4) p z m V b4.cell (gS.out.gives.below hwV) (by rw [hVz]; omega) gS.out.lt
  rw [← hV]
  have gw := Lib.hid hwV
  have gz := Lib.hid hz
  have gb0 := Lib.hid b0
  have gb1 := Lib.hid b1
  have gb2 := Lib.hid b2
  rw [← hz]
  clear hV hwV hz b0 b1 b2 b4
  refine range_foot (by omega) (gf := 49) (lb := #[.pointer (some ⟨z + 4, 0, none⟩)]) rfl (enters_of Try.func49 (by kernel_rfl) rfl) hseq (Below.refl _ _) (by rw [hVz]; omega) (fun _ _ => rfl)
    (Cmp (z + 3) V) (fun _ _ _ _ => False) (cmp_steady (by rw [hVz]; omega)) (fun _ _ _ _ _ h _ => h) (fun b => b = z + 3) (fun b hb => by rw [hVz]; omega) ⟨rfl, But.refl _ _, b3⟩
    ?a1 ?assigned ?round ?done ?stop
  case assigned =>
    intro lr pre x U K hK
    unfold encN
    gi_wp2
    exact hK
  case stop =>
    rintro D cc pre F U _ _ _ _ h _
    exact h.elim
  case round =>
    rintro lr pre x F U ⟨rfl, hVU, h3⟩ hF hp _
    have hx : l[pre.length]? = some x := by
      obtain ⟨t, ht⟩ := hp
      rw [ge.out, ← ht]
      simp
    have hmem : x ∈ sl m := by
      obtain ⟨t, ht⟩ := hp
      rw [← ht]
      simp
    have hpl : pre.length < N := by rw [gN.out]; exact (List.getElem?_eq_some_iff.1 hx).1
    have hVb : Below w.heap.size w U := by
      have h1 := gz.out
      exact gw.out.trans (hVU.below (by rw [hVz]; omega) (fun b hb => by omega))
    obtain ⟨bA, rfl, hc⟩ := (gl.out.below hVb).at hx
    have gH := Lib.hid (gS.out.has U hVb x hmem)
    have k0 := Boxed.cell ((hVU.block z (by rw [hVz]; omega) (by omega)).trans gb0.out)
    have k1 := Boxed.cell ((hVU.block (z + 1) (by rw [hVz]; omega) (by omega)).trans gb1.out)
    have k3 := h3.cell
    have f3 := h3.frozen
    have i0 : (0 : Int) ≤ (pre.length : Int) := by omega
    have i1 : (pre.length : Int) < (N : Int) := by omega
    have d1 : decide (N ≤ pre.length) = false := by simp; omega
    have d2 : decide ((N : Int) ≤ (pre.length : Int)) = false := by simp; omega
    have hpl9 : pre.length < 100 := by omega
    have gE := Lib.hid (show ∃ F', Turn (fun b => b = z + 3) F' U (U.setCell ⟨z + 3, 0, none⟩ (.int .i64 ((pre.length : Int) + 1))) ∧ Cmp (z + 3) V (pre ++ [x]) F' (U.setCell ⟨z + 3, 0, none⟩ (.int .i64 ((pre.length : Int) + 1))) from by
      have hB : But (fun b => b = z + 3) U (U.setCell ⟨z + 3, 0, none⟩ (.int .i64 ((pre.length : Int) + 1))) := (But.refl (fun b => b = z + 3) U).setCell (.inl rfl) _
      refine ⟨_, ⟨hB, fun _ h => .inl h⟩, rfl, hVU.trans hB, ?_⟩
      rw [List.length_append]
      exact h3.set _)
    clear hx hmem hVb hVU h3 hF hp hseq b3
    gi_wp2_with fail
    refine (CallsIn.inRound lr (callsIn_wide.2 gH.out)).mono ?_
    rintro e _ ⟨rfl, rfl⟩
    gi_wp2_with fail
    exact gE.out
  case done =>
    rintro D F U hD hFD hF ⟨rfl, hVU, h3⟩ hK
    have hlast : (sl m).length = N := by rw [gN.out, ge.out]
    have hVb : Below w.heap.size w U := by
      have h1 := gz.out
      exact gw.out.trans (hVU.below (by rw [hVz]; omega) (fun b hb => by omega))
    have gH := Lib.hid gS.out.len
    rw [hlast] at h3 gH
    have k0 := Boxed.cell ((hVU.block z (by rw [hVz]; omega) (by omega)).trans gb0.out)
    have k1 := Boxed.cell ((hVU.block (z + 1) (by rw [hVz]; omega) (by omega)).trans gb1.out)
    have h2 : Boxed U (z + 2) 4 (.bool false) := (hVU.block (z + 2) (by rw [hVz]; omega) (by omega)).trans gb2.out
    have k3 := h3.cell
    have k2 := h2.cell
    have f2 := h2.frozen
    have gK := Lib.hid hK
    have gh2 := Lib.hid h2
    have gVU := Lib.hid hVU
    have gVb := Lib.hid hVb
    have gD := Lib.hid hD
    clear h2 h3 hVU hF hFD hD hK hlast hVb hseq b3
    gi_wp2_with fail
    refine wpIn_wide.2 ?_
    generalize hr : z + 1 + 1 = r
    have hz2 : z + 2 = r := by omega
    have hz3 : z + 3 = r + 1 := by omega
    rw [hz2] at k2 f2
    rw [hz3] at k3
    have hne : ¬ z = r := by omega
    have hne1 : ¬ z + 1 = r := by omega
    have hne3 : ¬ r + 1 = r := by omega
    have gr := Lib.hid hz2
    clear hr hz2 hz3
    go_region_held3 (fun w' => w'.cell? ⟨z, 0, none⟩ = some (.pointer p) ∧ w'.cell? ⟨z + 1, 0, none⟩ = some (.slice A N c) ∧ w'.cell? ⟨r + 1, 0, none⟩ = some (.int .i64 (N : Nat)))
      (first | exact ⟨k0, k1, k3⟩ | exact ⟨(World.cell?_of_block (Below.heap_setCell _ _ _ z hne)).trans k0, (World.cell?_of_block (Below.heap_setCell _ _ _ (z + 1) hne1)).trans k1, (World.cell?_of_block (Below.heap_setCell _ _ _ (r + 1) hne3)).trans k3⟩ | go_keep)
      ((go_at_call 36; (with_reducible refine (gH.out _ gVb.out.drew).mono ?_); rintro e _ ⟨rfl, rfl⟩))
    have e1 := gr.out
    have hD2 := gD.out
    rw [hVz] at hD2
    have hK2 : (U.setCell ⟨r, 0, none⟩ (.bool true)).drew.heap[D]? = some (.deferred (some [])) := (Below.heap_setCell _ _ _ D (by show D ≠ r; omega)).trans gK.out
    have hR := gh2.out
    rw [e1] at hR
    have cF := Boxed.cell (show Boxed ((U.setCell ⟨r, 0, none⟩ (.bool true)).drew.putObj D (.deferred none)) r 4 (.bool true) from (World.putObj_heap_other (by omega)).trans (hR.set _))
    have hB : But (fun b => b = r ∨ b = D) U ((U.setCell ⟨r, 0, none⟩ (.bool true)).drew.putObj D (.deferred none)) := ((But.refl (fun b => b = r ∨ b = D) U).setCell (.inl (.inl rfl)) _).drew.trans (but_put _ D _ (.inr rfl))
    have gEnd := Lib.hid (show Below w.heap.size w ((U.setCell ⟨r, 0, none⟩ (.bool true)).drew.putObj D (.deferred none)) from by
      have h1 := gz.out
      have h2 := gVb.out.size
      exact gVb.out.trans (hB.below h2 (fun b hb => by omega)))
    have gK2 := Lib.hid hK2
    clear e1 hD2 hK2 hR hB k0 k1 k2 k3 f2 hne hne1 hne3
    gi_wp2_with fail
    refine ⟨by simp, .inl ⟨_, _, rfl, run_takeDeferred gK2.out, ?_⟩⟩
    refine ⟨.bool true, ?_, rfl, gEnd.out⟩
    clear gEnd
    simp [results, Try.results33, go_sem, cF]
end Go.Proofs.Ytpdipcgchhibeaa
