/- The reference's queue: Copy. -/
import Derived.Test.YtepgdeokjgjapaaQJPair
import Derived.Deep.RegionHeld3
import Derived.Deep.AppendLies
namespace Go.Proofs.Ytepgdeokjgjapaa.QJ
open Go.RowKit
theorem empty_row {W : World} {B g e : Nat} (h : W.heap[g]? = some (.cells #[] e (0, 0))) (hB : B ≤ g) : W.ownsRow B e 1 (.slice (some ⟨g, 0, none⟩) 0 0) 0 [] :=
  ⟨rfl, .inr ⟨g, 0, #[], rfl, hB, h, Nat.le_refl _, by unfold maxLen; omega, rfl, rfl⟩⟩
theorem ROwn.keep {w W : World} {B R n bI cI bP cP : Nat} {L : List Mk} (h : ROwn w B R n bI cI bP cP L) (hb : Below w.heap.size w W) : W.cell? ⟨R, 0, none⟩ = some (.slice (some ⟨bI, 0, none⟩) n cI) ∧ W.cell? ⟨R, 1, none⟩ = some (.slice (some ⟨bP, 0, none⟩) n cP) :=
  ⟨(h.below hb).c0, (h.below hb).c1⟩
theorem ones_b (L : List Mk) : ∀ u ∈ L.map (fun x : Mk => Value.bool x.1), u.oneCell' = true := by
  intro u hu
  obtain ⟨x, _, rfl⟩ := List.mem_map.1 hu
  rfl
theorem ones_i (L : List Mk) : ∀ u ∈ L.map (fun x : Mk => Value.int .i64 x.2), u.oneCell' = true := by
  intro u hu
  obtain ⟨x, _, rfl⟩ := List.mem_map.1 hu
  rfl
theorem grown_low {w W W1 : World} {g : Nat} (hb : Below w.heap.size w W) (hg : W.grownBy W1 (Value.ownBlock (.slice (some ⟨g, 0, none⟩) 0 0))) (h : w.heap.size ≤ g) : Below w.heap.size w W1 :=
  hb.grown hg hb.size (fun k hk => by cases hk; exact h)
/-- Both rows laid: the box of the new queue. -/
theorem rcopied {w W1 W2 : World} {B R n bI cI bP cP : Nat} {L : List Mk} (h : ROwn w B R n bI cI bP cP L) {g1 p1 g12 g2 p2 : Nat} (b1 : Below w.heap.size w W1) (o1 : W1.ownsRow w.heap.size 4 1 (.slice (some ⟨g1, 0, none⟩) (0 + n) p1) (0 + n) ([] ++ L.map fun x => .bool x.1)) (h12 : w.heap.size ≤ g12) (s1 : W1.heap[g12]? = some (.cells #[] 2 (0, 0)))
    (e2 : W1.grownBy W2 (Value.ownBlock (.slice (some ⟨g12, 0, none⟩) 0 0))) (o2 : W2.ownsRow w.heap.size 2 1 (.slice (some ⟨g2, 0, none⟩) (0 + n) p2) (0 + n) ([] ++ L.map fun x => .int .i64 x.2)) :
    ROwn (W2.alloc (.cells #[.slice (some ⟨g1, 0, none⟩) n p1, .slice (some ⟨g2, 0, none⟩) n p2] 101)) w.heap.size W2.heap.size n g1 p1 g2 p2 L ∧ Below w.heap.size w (W2.alloc (.cells #[.slice (some ⟨g1, 0, none⟩) n p1, .slice (some ⟨g2, 0, none⟩) n p2] 101)) := by
  rw [Nat.zero_add, List.nil_append] at o1 o2
  obtain ⟨q1, t1⟩ := row_type o1
  have b2 := grown_low b1 e2 h12
  have hne : g1 ≠ g12 := by
    rintro rfl
    rw [s1] at t1
    cases t1
  have o3 : W2.ownsRow w.heap.size 4 1 (.slice (some ⟨g1, 0, none⟩) n p1) n (L.map fun x => .bool x.1) := owns_of_block o1 fun g hg => e2.block g (o1.lt g hg).2 (by cases hg; simpa [Value.ownBlock] using fun e => hne e)
  obtain ⟨q2, t2⟩ := row_type o2
  obtain ⟨q3, t3⟩ := row_type o3
  have l1 := (o3.lt g1 rfl).2
  have l2 := (o2.lt g2 rfl).2
  refine ⟨⟨h.len, h.pos, h.top, b2.size, ?_, by omega, by omega, World.alloc_heap_new W2 _, o3.alloc _, o2.alloc _⟩, b2.alloc b2.size _⟩
  rintro rfl
  rw [t2] at t3
  cases t3
def RCopied (w : World) (n : Nat) (L : List Mk) (e : Ending) (w' : World) : Prop := ∃ R bI cI bP cP, e = .returned (.pointer (some ⟨R, 0, none⟩)) ∧ ROwn w' w.heap.size R n bI cI bP cP L ∧ Below w.heap.size w w'
set_option maxHeartbeats 4000000 in
theorem rcopy {w : World} {B R n bI cI bP cP : Nat} {L : List Mk} (h : ROwn w B R n bI cI bP cP L) : Calls Try.prog 23 #[.pointer (some ⟨R, 0, none⟩)] w (RCopied w n L) := by
  unfold RCopied
  have c0 := h.c0
  have c1 := h.c1
  obtain ⟨j0, hj0, hj1, hj2, hj3⟩ := info_parts infoB
  obtain ⟨k0, hk0, hk1, hk2, hk3⟩ := info_parts infoJ
  have gh := Lib.hid h
  have hn1 := h.pos
  have hn2 := h.top
  have gl := Lib.hid h.len
  have gj := Lib.hid (And.intro hj0 (And.intro hj1 (And.intro hj2 hj3)))
  have gk := Lib.hid (And.intro hk0 (And.intro hk1 (And.intro hk2 hk3)))
  clear h hj0 hj1 hj2 hj3 hk0 hk1 hk2 hk3
  go_enter Try.func23, Try.ntmps23
  go_wp2_with (go_at_call 66; refine (rvalid gh.out).mono ?_; rintro e w' ⟨rfl, rfl⟩)
  obtain ⟨H, hH⟩ : ∃ H, H = w.heap.size := ⟨_, rfl⟩
  have gA := Lib.hid (show Below w.heap.size w (w.alloc (.cells #[] 4)).drew ∧ (w.alloc (.cells #[] 4)).drew.heap[w.heap.size]? = some (.cells #[] 4 (0, 0)) from ⟨((Below.refl _ w).alloc (Nat.le_refl _) _).drew, World.alloc_heap_new w _⟩)
  have two : ∀ (s t : TypeId), Below w.heap.size w ((w.alloc (.cells #[] s)).alloc (.cells #[] t)).drew ∧ ((w.alloc (.cells #[] s)).alloc (.cells #[] t)).drew.heap[w.heap.size]? = some (.cells #[] s (0, 0)) ∧ ((w.alloc (.cells #[] s)).alloc (.cells #[] t)).drew.heap[w.heap.size + 1]? = some (.cells #[] t (0, 0)) := fun s t => by
    refine ⟨(((Below.refl _ w).alloc (Nat.le_refl _) _).alloc (by simp) _).drew, (Below.heap_alloc _ _ _ (by simp)).trans (World.alloc_heap_new w _), ?_⟩
    have := World.alloc_heap_new (w.alloc (.cells #[] s)) (.cells #[] t)
    rwa [World.size_alloc] at this
  have gB := Lib.hid (two 4 2)
  have gC := Lib.hid (two 2 4)
  have fin := Lib.hid (fun (W1 W2 : World) (g1 p1 g12 g2 p2 : Nat) (b1 : Below w.heap.size w W1) (o1 : W1.ownsRow w.heap.size 4 1 (.slice (some ⟨g1, 0, none⟩) (0 + n) p1) (0 + n) ([] ++ L.map fun x => .bool x.1)) (h12 : w.heap.size ≤ g12) (s1 : W1.heap[g12]? = some (.cells #[] 2 (0, 0))) (e2 : W1.grownBy W2 (Value.ownBlock (.slice (some ⟨g12, 0, none⟩) 0 0)))
      (o2 : W2.ownsRow w.heap.size 2 1 (.slice (some ⟨g2, 0, none⟩) (0 + n) p2) (0 + n) ([] ++ L.map fun x => .int .i64 x.2)) => rcopied gh.out b1 o1 h12 s1 e2 o2)
  clear two hH
  go_region_held3 (fun w' => w'.cell? ⟨R, 0, none⟩ = some (.slice (some ⟨bI, 0, none⟩) n cI) ∧ w'.cell? ⟨R, 1, none⟩ = some (.slice (some ⟨bP, 0, none⟩) n cP)) (first | go_keep | exact ⟨c0, c1⟩ | exact gh.out.keep (by assumption))
    (first
    | (refine step_append_lies _ (by rfl) (.tmp 6) (.tmp 10) 99 (by rfl) w.heap.size 4 j0 (.bool false) 1 1 Try.underlying99 gj.out.1 gj.out.2.1 gj.out.2.2.1 gj.out.2.2.2 rfl (by omega) (.slice (some ⟨w.heap.size, 0, none⟩) 0 0) 0 [] (by rfl) (empty_row gA.out.2 (Nat.le_refl _))
        ⟨bI, 0, none⟩ n cI (L.map fun x => .bool x.1) (by rfl) (by simp [gl.out]) ((gh.out.below gA.out.1).rowI.cells (g := bI) rfl) (ones_b L) (by omega) (by unfold maxLen; omega) (by omega) gA.out.1.size _ rfl ?_; intro g1 p1 W1 o1 e1 a1 l1; have b1 := grown_low gA.out.1 e1 (Nat.le_refl _); have hb1 := (Below.refl w.heap.size w).size; have s1 := World.alloc_heap_new W1 (.cells #[] 2); have bz := b1.alloc b1.size (.cells #[] 2))
    | (refine step_append_lies _ (by rfl) (.tmp 6) (.tmp 10) 99 (by rfl) w.heap.size 4 j0 (.bool false) 1 1 Try.underlying99 gj.out.1 gj.out.2.1 gj.out.2.2.1 gj.out.2.2.2 rfl (by omega) (.slice (some ⟨w.heap.size, 0, none⟩) 0 0) 0 [] (by rfl) (empty_row gB.out.2.1 (Nat.le_refl _))
        ⟨bI, 0, none⟩ n cI (L.map fun x => .bool x.1) (by rfl) (by simp [gl.out]) ((gh.out.below gB.out.1).rowI.cells (g := bI) rfl) (ones_b L) (by omega) (by unfold maxLen; omega) (by omega) gB.out.1.size _ rfl ?_; intro g1 p1 W1 o1 e1 a1 l1; have b1 := grown_low gB.out.1 e1 (Nat.le_refl _); have s1 := (e1.block (w.heap.size + 1) (lt_of_heap gB.out.2.2) (by simp [Value.ownBlock])).trans gB.out.2.2)
    | (refine step_append_lies _ (by rfl) (.tmp 6) (.tmp 10) 99 (by rfl) w.heap.size 4 j0 (.bool false) 1 1 Try.underlying99 gj.out.1 gj.out.2.1 gj.out.2.2.1 gj.out.2.2.2 rfl (by omega) (.slice (some ⟨w.heap.size + 1, 0, none⟩) 0 0) 0 [] (by rfl) (empty_row gC.out.2.2 (Nat.le_succ _))
        ⟨bI, 0, none⟩ n cI (L.map fun x => .bool x.1) (by rfl) (by simp [gl.out]) ((gh.out.below gC.out.1).rowI.cells (g := bI) rfl) (ones_b L) (by omega) (by unfold maxLen; omega) (by omega) gC.out.1.size _ rfl ?_; intro g1 p1 W1 o1 e1 a1 l1; have b1 := grown_low gC.out.1 e1 (Nat.le_succ _); have s1 := (e1.block w.heap.size (lt_of_heap gC.out.2.1) (by simp [Value.ownBlock])).trans gC.out.2.1)
    | (refine step_append_lies _ (by rfl) (.tmp 12) (.tmp 16) 42 (by rfl) w.heap.size 2 k0 (.int .i64 0) 1 8 Try.underlying42 gk.out.1 gk.out.2.1 gk.out.2.2.1 gk.out.2.2.2 rfl (by omega) (.slice (some ⟨W1.heap.size, 0, none⟩) 0 0) 0 [] (by rfl) (empty_row s1 b1.size)
        ⟨bP, 0, none⟩ n cP (L.map fun x => .int .i64 x.2) (by rfl) (by simp [gl.out]) ((gh.out.below bz).rowP.cells (g := bP) rfl) (ones_i L) (by omega) (by unfold maxLen; omega) (by omega) bz.size _ rfl ?_; intro g2 p2 W2 o2 e2 a2 l2; have b2 := grown_low bz e2 b1.size; have gf := Lib.hid (fin.out _ W2 g1 p1 _ g2 p2 bz (o1.alloc _) b1.size s1 e2 o2))
    | (refine step_append_lies _ (by rfl) (.tmp 12) (.tmp 16) 42 (by rfl) w.heap.size 2 k0 (.int .i64 0) 1 8 Try.underlying42 gk.out.1 gk.out.2.1 gk.out.2.2.1 gk.out.2.2.2 rfl (by omega) (.slice (some ⟨w.heap.size + 1, 0, none⟩) 0 0) 0 [] (by rfl) (empty_row s1 (Nat.le_succ _))
        ⟨bP, 0, none⟩ n cP (L.map fun x => .int .i64 x.2) (by rfl) (by simp [gl.out]) ((gh.out.below b1).rowP.cells (g := bP) rfl) (ones_i L) (by omega) (by unfold maxLen; omega) (by omega) b1.size _ rfl ?_; intro g2 p2 W2 o2 e2 a2 l2; have b2 := grown_low b1 e2 (Nat.le_succ _); have gf := Lib.hid (fin.out _ W2 g1 p1 _ g2 p2 b1 o1 (Nat.le_succ _) s1 e2 o2))
    | (refine step_append_lies _ (by rfl) (.tmp 12) (.tmp 16) 42 (by rfl) w.heap.size 2 k0 (.int .i64 0) 1 8 Try.underlying42 gk.out.1 gk.out.2.1 gk.out.2.2.1 gk.out.2.2.2 rfl (by omega) (.slice (some ⟨w.heap.size, 0, none⟩) 0 0) 0 [] (by rfl) (empty_row s1 (Nat.le_refl _))
        ⟨bP, 0, none⟩ n cP (L.map fun x => .int .i64 x.2) (by rfl) (by simp [gl.out]) ((gh.out.below b1).rowP.cells (g := bP) rfl) (ones_i L) (by omega) (by unfold maxLen; omega) (by omega) b1.size _ rfl ?_; intro g2 p2 W2 o2 e2 a2 l2; have b2 := grown_low b1 e2 (Nat.le_refl _); have gf := Lib.hid (fin.out _ W2 g1 p1 _ g2 p2 b1 o1 (Nat.le_refl _) s1 e2 o2)))
  all_goals (
    go_wp2_with fail
    go_ret
    exact ⟨_, g1, p1, g2, p2, rfl, gf.out⟩)
end Go.Proofs.Ytepgdeokjgjapaa.QJ
