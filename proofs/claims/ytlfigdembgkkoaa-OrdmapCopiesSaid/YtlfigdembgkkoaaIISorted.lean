/- slices.Sorted(maps.Keys(want)) at a Go map whose data are l's. -/
import Derived.Test.YtlfigdembgkkoaaKeys
import Derived.Test.YtlfigdembgkkoaaLib
import Derived.Test.YtlfigdembgkkoaaIIFill
namespace Go.Proofs.Ytlfigdembgkkoaa.II
open Go.RowKit Go.Maps Go.Sort Go.Shelf

theorem sortsI (m : Nat) : AnyZI.SortsIn Try.prog Try.sortedI_ren Fence.wide m :=
  ⟨fun blk off cap ss W hH hblk hsz => callsIn_wide.2 (Try.slices_Sort_int blk off cap ss W hH hblk hsz), fun p cap W => callsIn_wide.2 (Try.slices_Sort_int_none p cap W)⟩
theorem keysI_in (mb : Option Nat) (n : Nat) (W : World) : CallsIn Fence.wide n Try.prog 25 #[.map mb] W fun e w' => e = .returned (.func (.func 92) #[] #[.pointer (some ⟨W.heap.size, 0, none⟩)]) ∧ w' = W.alloc (.cells #[.map mb] 47) :=
  AnyZI.keys_in Try.keysI Fence.wide n trivial rfl mb W

theorem asc_keys {l : List (K × V)} (ha : Asc lt (keysOf l)) : (keysOf l).Pairwise (fun a b => a < b) := ha.imp fun {a b} h => by simpa [lt] using h
theorem keys_perm {w : World} {b n : Nat} {l : List (K × V)} {D : DataW Unit} (hm : w.ownsMap Try.prog 3 (plainElem Try.prog 3) b n D) (hi : MapIs D l) (ha : Asc lt (keysOf l)) : (keysOf l).Perm (intKeys D) := by
  have hc : CollectedI D (fun _ => false) (keysOf l) := by
    refine ⟨(asc_keys ha).imp fun {a b} h => Int.ne_of_lt h, fun x => ?_⟩
    rw [hi.has]
    exact ⟨fun h => ⟨(hasB_mem kord ha x).2 h, rfl⟩, fun h => (hasB_mem kord ha x).1 h.1⟩
  exact hc.perm hm law3 Try.underlying3 (fun _ => rfl)
/-- The Go map's keys, sorted, are the map's. -/
theorem sorted_keys {w : World} {b n : Nat} {l : List (K × V)} {D : DataW Unit} (hm : w.ownsMap Try.prog 3 (plainElem Try.prog 3) b n D) (hi : MapIs D l) (ha : Asc lt (keysOf l)) {ss : List Int} (hp : ss.Perm (intKeys D)) :
    ss.mergeSort (fun x y => decide (x ≤ y)) = keysOf l := by
  have h2 : ss.mergeSort leI = (keysOf l).mergeSort leI := mergeSort_of_perm_i (hp.trans (keys_perm hm hi ha).symm)
  refine h2.trans (List.mergeSort_of_pairwise ((asc_keys ha).imp fun {a b} h => ?_))
  exact decide_eq_true (Int.le_of_lt h)
/-- What the Go map says of an item. -/
theorem item_of {w0 W : World} {P b n : Nat} {v : Value} {l : List (K × V)} {D : DataW Unit} (h : Two w0 W P b n v l D) {kx vx : Int} (hx : (kx, vx) ∈ l) :
    (Lit.int .i64 kx).wf = true ∧ hasB lt (keysOf l) kx = true ∧ getL lt l kx z0 = vx ∧ (Instr.lookup 47 (.map (some b)) (.int .i64 kx) false).run Try.prog W = .ok (.int .i64 vx) W := by
  have hg := getL_mem kord h.own.asc hx z0
  have hk : kx ∈ keysOf l := List.mem_map.2 ⟨_, hx, rfl⟩
  have hw := intKeys_wf h.map Try.underlying3 kx ((keys_perm h.map h.is h.own.asc).mem_iff.1 hk)
  obtain ⟨c, hr, hat, _⟩ := h.map.lookup_int law3 Try.underlying47 Try.underlying3 (zero3 W) (keyOf_int_mk Try.underlying3 hw)
  have h2 := hat.symm.trans (h.is.at_ kx)
  simp only [DataW.lit.injEq, Lit.int.injEq, true_and] at h2
  have e : c = vx := h2.trans hg.2
  rw [e] at hr
  exact ⟨hw, hg.1, hg.2, hr⟩
theorem size_le {l : List (K × V)} {D : DataW Unit} (h : MapIs D l) (hl : l.length ≤ 100) : Maps.size D ≤ 100 := by rw [h.size]; exact hl

/-- The sorted keys, as the law lays them. -/
def SortedOf (W w' : World) (v : Value) (l : List (K × V)) : Prop :=
  w'.ownsRow W.heap.size 3 1 v l.length ((keysOf l).map (Value.int .i64)) ∧ Below W.heap.size W w'
theorem sorted_in {w0 W : World} {P b n : Nat} {v : Value} {l : List (K × V)} {D : DataW Unit} (h : Two w0 W P b n v l D) (hl : l.length ≤ 100) (m : Nat) (hm4 : 4 ≤ m) (z : Nat) (hz : z = W.heap.size) :
    CallsIn Fence.wide m Try.prog 24 #[.func (.func 92) #[] #[.pointer (some ⟨z, 0, none⟩)]] (W.alloc (.cells #[.map (some b)] 47)) fun e w' =>
      ∃ A c, e = .returned (.slice A l.length c) ∧ Hid (SortedOf W w' (.slice A l.length c) l) := by
  subst hz
  have hbl := map_lt h.map
  have hsz := size_le h.is hl
  have hseq : SeqGives Fence.wide (m - 1 - 1 - 1) Try.prog 92 #[.pointer (some ⟨W.heap.size, 0, none⟩)] encZ (fun ss => ss.Perm (intKeys D)) (Maps.size D) (W.alloc (.cells #[.map (some b)] 47)) :=
    AnyZI.keys_gives (ρ := Try.keysI_ren) { Try.keysI with } Fence.wide _ trivial rfl (by omega) W.heap.size b n D _ (by simp) (by simp) (map_keep h.map (Below.heap_alloc _ _ b hbl))
  have cS := AnyZI.sorted_in Try.sortedI Fence.wide m trivial trivial trivial trivial rfl hm4 (sortsI _) (enters_of Try.func91 (by kernel_rfl) rfl) 92 #[.pointer (some ⟨W.heap.size, 0, none⟩)] trivial (enters_of Try.func92 (by kernel_rfl) rfl) _ _ (Nat.le_trans hsz (by decide)) (by omega) _ hseq
  change CallsIn _ _ Try.prog 24 _ _ _ at cS
  refine cS.mono ?_
  rintro e w' ⟨v', ss, rfl, hS, hrow, _, hb⟩
  have hs := sorted_keys h.map h.is h.own.asc hS
  have hlen : ss.length = l.length := by have := congrArg List.length hs; rw [List.length_mergeSort] at this; simpa using this
  rw [hs, hlen] at hrow
  have hrow2 : w'.ownsRow W.heap.size 3 1 v' l.length ((keysOf l).map (Value.int .i64)) := ownsRow_base_a hrow (by simp)
  have hB : Below W.heap.size W w' := ((Below.refl _ W).alloc (Nat.le_refl _) _).trans (hb.mono (by simp))
  rcases hrow2.2 with ⟨rfl, h0⟩ | ⟨g, cap, cur, rfl, hr⟩
  · rw [h0] at hrow2 ⊢
    exact ⟨none, 0, rfl, by rw [SortedOf, h0]; exact ⟨hrow2, hB⟩⟩
  · exact ⟨_, _, rfl, hrow2, hB⟩
end Go.Proofs.Ytlfigdembgkkoaa.II
