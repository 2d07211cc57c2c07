/- settle: an item's place is found, and it is put there. -/
import Derived.Test.YtepgdeokjgjapaaQUChild
import Derived.Deep.DeepCutAuto
import Derived.RangeFuncRecord
namespace Go.Proofs.Ytepgdeokjgjapaa.QU
open Go.RowKit

theorem pord : IOrd ltP := ⟨fun a => decide_eq_false (Int.lt_irrefl a), fun _ _ _ h1 h2 => decide_eq_true (Int.lt_trans (of_decide_eq_true h1) (of_decide_eq_true h2)),
  fun _ _ h1 h2 => Int.le_antisymm (Int.not_lt.1 (of_decide_eq_false h2)) (Int.not_lt.1 (of_decide_eq_false h1))⟩
theorem lt_iff (x y : It) : lt x y = true ↔ ltP x.2 y.2 = true ∨ (x.2 = y.2 ∧ x.1 < y.1) := by
  unfold lt
  cases h1 : ltP x.2 y.2 with
  | true => simp
  | false =>
    simp only [Bool.false_or, Bool.and_eq_true, Bool.not_eq_true', decide_eq_true_eq, Bool.false_eq_true, false_or]
    constructor
    · rintro ⟨h2, h3⟩
      exact ⟨pord.tri _ _ h1 h2, h3⟩
    · rintro ⟨h2, h3⟩
      exact ⟨by rw [h2]; exact pord.irrefl _, h3⟩
theorem iord : IOrd lt where
  irrefl a := by
    cases h : lt a a with
    | false => rfl
    | true =>
      rcases (lt_iff a a).1 h with h1 | ⟨_, h1⟩
      · rw [pord.irrefl] at h1; cases h1
      · exact absurd h1 (Nat.lt_irrefl _)
  trans a b c h1 h2 := by
    refine (lt_iff a c).2 ?_
    rcases (lt_iff a b).1 h1 with h3 | ⟨h3, h4⟩
    · rcases (lt_iff b c).1 h2 with h5 | ⟨h5, _⟩
      · exact Or.inl (pord.trans _ _ _ h3 h5)
      · exact Or.inl (h5 ▸ h3)
    · rcases (lt_iff b c).1 h2 with h5 | ⟨h5, h6⟩
      · exact Or.inl (h3 ▸ h5)
      · exact Or.inr ⟨h3.trans h5, Nat.lt_trans h4 h6⟩
  tri a b h1 h2 := by
    have n1 : ¬ (ltP a.2 b.2 = true ∨ (a.2 = b.2 ∧ a.1 < b.1)) := fun h => by rw [(lt_iff a b).2 h] at h1; cases h1
    have n2 : ¬ (ltP b.2 a.2 = true ∨ (b.2 = a.2 ∧ b.1 < a.1)) := fun h => by rw [(lt_iff b a).2 h] at h2; cases h2
    have e2 : a.2 = b.2 := pord.tri _ _ (by simpa using fun h => n1 (Or.inl h)) (by simpa using fun h => n2 (Or.inl h))
    rcases Nat.lt_trichotomy a.1 b.1 with h | h | h
    · exact absurd (Or.inr ⟨e2, h⟩) n1
    · exact Prod.ext h e2
    · exact absurd (Or.inr ⟨e2.symm, h⟩) n2
/-- On the way: the place is k; the item x is not in the heap, but in a box. -/
structure SetAt (w wr : World) (B P n : Nat) (v : Value) (x : It) (E : Nat → Prop) (l0 : List It) (k : Nat) (l : List It) (pl : List Nat) : Prop where
  qs : QS wr B P n v l pl
  kl : k < l.length
  hole : HoleAt lt l k
  plc : Placed Prod.fst pl (l.set k x) (fun i => i = x.1 ∨ E i)
  perm : (l.set k x).Perm l0
  but : But (fun b => b = P ∨ v.ownBlock = some b) w wr
theorem SetAt.below {w wr wr' : World} {B P n : Nat} {v : Value} {x : It} {E : Nat → Prop} {l0 : List It} {k : Nat} {l : List It} {pl : List Nat} (h : SetAt w wr B P n v x E l0 k l pl) (hb : Below wr.heap.size wr wr') : SetAt w wr' B P n v x E l0 k l pl :=
  ⟨h.qs.below hb, h.kl, h.hole, h.plc, h.perm, h.but.trans (But.of_below hb)⟩
theorem SetAt.move {w wr wr' : World} {B P n : Nat} {v : Value} {x y : It} {E : Nat → Prop} {l0 : List It} {k k' : Nat} {l : List It} {pl : List Nat} (h : SetAt w wr B P n v x E l0 k l pl) (hnd : (l0.map Prod.fst).Nodup) (hne : k ≠ k') (hy : l[k']? = some y)
    (hole' : HoleAt lt (l.set k y) k') (hq : QS wr' B P n v (l.set k y) (pl.set y.1 (k + 1)) ∧ But (fun b => b = P ∨ v.ownBlock = some b) wr wr') : SetAt w wr' B P n v x E l0 k' (l.set k y) (pl.set y.1 (k + 1)) := by
  have hn : ((l.set k x).map Prod.fst).Nodup := (h.perm.map Prod.fst).nodup_iff.2 hnd
  exact ⟨hq.1, by rw [List.length_set]; exact lt_of_some hy, hole', placed_step hn h.plc (Or.inl rfl) h.kl hy hne, (swap_perm h.kl hy hne).trans h.perm, h.but.trans hq.2⟩
theorem SetAt.len {w wr : World} {B P n : Nat} {v : Value} {x : It} {E : Nat → Prop} {l0 : List It} {k : Nat} {l : List It} {pl : List Nat} (h : SetAt w wr B P n v x E l0 k l pl) : l.length = l0.length := by have := h.perm.length_eq; simpa using this
theorem SetAt.id {w wr : World} {B P n : Nat} {v : Value} {x y : It} {E : Nat → Prop} {l0 : List It} {k k' : Nat} {l : List It} {pl : List Nat} (h : SetAt w wr B P n v x E l0 k l pl) (hid : ∀ y ∈ l0, y.1 < 1024) (hne : k ≠ k') (hy : l[k']? = some y) : y.1 < 1024 :=
  hid y (h.perm.mem_iff.1 (List.mem_of_getElem? (by rw [set_other (Ne.symm hne)]; exact hy)))
/-- Does the item go up? -/
def upB (l : List It) (k : Nat) (x : It) : Bool := match k, l[(k - 1) / 2]? with
  | 0, _ => false
  | _ + 1, some y => lt x y
  | _ + 1, none => false
/-- Does it go down? -/
def downB (l : List It) (k : Nat) (x : It) : Bool := match l[firstC l k]? with
  | some y => lt y x
  | none => false
theorem firstC_parent (l : List It) (k : Nat) : 0 < firstC l k ∧ (firstC l k - 1) / 2 = k := by
  unfold firstC
  split
  · split <;> omega
  · omega
theorem firstC_min {l : List It} {k : Nat} {y : It} (hy : l[firstC l k]? = some y) : ∀ i z, 0 < i → (i - 1) / 2 = k → l[i]? = some z → lt z y = false := by
  intro i z h0 hi hz
  have hi2 : i = 2 * k + 1 ∨ i = 2 * k + 1 + 1 := by omega
  unfold firstC at hy
  cases hr : l[2 * k + 1 + 1]? with
  | none =>
    rw [hr] at hy
    rcases hi2 with rfl | rfl
    · simp only at hy
      rw [hz] at hy
      obtain rfl : z = y := by simpa using hy
      exact iord.irrefl _
    · rw [hr] at hz; cases hz
  | some a =>
    obtain ⟨b, hb⟩ : ∃ b, l[2 * k + 1]? = some b := ⟨_, List.getElem?_eq_getElem (by have := lt_of_some hr; omega)⟩
    rw [hr, hb] at hy
    simp only at hy
    cases hl : lt a b with
    | true =>
      rw [hl, if_pos rfl, hr] at hy
      obtain rfl : a = y := by simpa using hy
      rcases hi2 with rfl | rfl
      · rw [hb] at hz
        obtain rfl : b = z := by simpa using hz
        exact iord.asymm hl
      · rw [hr] at hz
        obtain rfl : a = z := by simpa using hz
        exact iord.irrefl _
    | false =>
      rw [hl, if_neg (by simp), hb] at hy
      obtain rfl : b = y := by simpa using hy
      rcases hi2 with rfl | rfl
      · rw [hb] at hz
        obtain rfl : b = z := by simpa using hz
        exact iord.irrefl _
      · rw [hr] at hz
        obtain rfl : a = z := by simpa using hz
        exact hl
theorem down_none {l : List It} {k : Nat} {x : It} (h : downB l k x = false) : ∀ c y, 0 < c → (c - 1) / 2 = k → l[c]? = some y → lt y x = false := by
  intro c y h0 hc hy
  unfold downB at h
  cases hf : l[firstC l k]? with
  | none =>
    have hc2 : c = 2 * k + 1 ∨ c = 2 * k + 1 + 1 := by omega
    have h1 := lt_of_some hy
    have h2 : l.length ≤ firstC l k := List.getElem?_eq_none_iff.1 hf
    unfold firstC at h2
    split at h2
    · rename_i a b ha _
      have := lt_of_some ha
      split at h2 <;> omega
    · rename_i hno
      obtain ⟨b, hb⟩ : ∃ b, l[2 * k + 1]? = some b := ⟨_, List.getElem?_eq_getElem (by omega)⟩
      omega
  | some z =>
    rw [hf] at h
    have h1 := firstC_min hf c y h0 hc hy
    exact iord.le_trans (a := x) (b := z) (c := y) h h1
theorem parent_at (k j : Nat) (hk : 0 < k) (hb : k ≤ 1024) (hj : (k - 1) / 2 = j) (w : World) : Calls Try.prog 93 #[.int .i64 (k : Nat)] w fun e w' => e = .returned (.int .i64 (j : Nat)) ∧ w = w' := hj ▸ parent_any k hk hb w
theorem child_at {w : World} {B P n k c : Nat} {v : Value} {l : List It} {pl : List Nat} (h : QS w B P n v l pl) (hk : k < l.length) (hl : l.length ≤ 1024) (hc : firstC l k = c) :
    Calls Try.prog 102 #[.pointer (some ⟨P, 0, none⟩), .int .i64 (k : Nat)] w fun e w' => e = .returned (.int .i64 (c : Nat)) ∧ Below w.heap.size w w' := hc ▸ child_any w B P n k v l pl h hk hl
/-- The box of the item. -/
theorem SetAt.box {w wr : World} {B P n : Nat} {v : Value} {x : It} {E : Nat → Prop} {l0 : List It} {k bx : Nat} {l : List It} {pl : List Nat} (h : SetAt w wr B P n v x E l0 k l pl) (hb : w.heap[bx]? = some (.cells #[.int .i64 (x.1 : Nat), .int .u8 x.2] 130 (0, 0))) (h1 : bx ≠ P) (h2 : v.ownBlock ≠ some bx) :
    wr.heap[bx]? = some (.cells #[.int .i64 (x.1 : Nat), .int .u8 x.2] 130 (0, 0)) := (h.but.block bx (lt_of_heap hb) (fun e => e.elim h1 h2)).trans hb
/-- What settle leaves. -/
def SettleOf (w : World) (B P n : Nat) (v : Value) (E : Nat → Prop) (l0 : List It) (e : Ending) (w' : World) : Prop :=
  (∃ u, e = .returned u) ∧ Hid (∃ G pl, QS w' B P n v G pl ∧ Heaped lt G ∧ Placed Prod.fst pl G E ∧ G.Perm l0 ∧ But (fun b => b = P ∨ v.ownBlock = some b) w w')
theorem settle_ends {w wr wr' : World} {B P n : Nat} {v : Value} {x : It} {E : Nat → Prop} {l0 : List It} {k : Nat} {l : List It} {pl : List Nat} (h : SetAt w wr B P n v x E l0 k l pl) (hnd : (l0.map Prod.fst).Nodup)
    (hup : 0 < k → ∀ p, l[(k - 1) / 2]? = some p → lt x p = false) (hdn : downB l k x = false) (hq : QS wr' B P n v (l.set k x) (pl.set x.1 (k + 1)) ∧ But (fun b => b = P ∨ v.ownBlock = some b) wr wr') :
    ∃ G pl, QS wr' B P n v G pl ∧ Heaped lt G ∧ Placed Prod.fst pl G E ∧ G.Perm l0 ∧ But (fun b => b = P ∨ v.ownBlock = some b) w wr' :=
  ⟨_, _, hq.1, hole_fill h.hole h.kl hup (down_none hdn), placed_end ((h.perm.map Prod.fst).nodup_iff.2 hnd) h.plc h.kl, h.perm, h.but.trans hq.2⟩
set_option maxHeartbeats 4000000 in
set_option maxRecDepth 100000 in
theorem settle_any (w : World) (B P n k : Nat) (v : Value) (l : List It) (pl : List Nat) (x : It) (E : Nat → Prop) (h : QS w B P n v l pl) (hk : k < l.length) (hl : l.length ≤ 1024) (hole : HoleAt lt l k) (plc : Placed Prod.fst pl (l.set k x) (fun i => i = x.1 ∨ E i))
    (hnd : ((l.set k x).map Prod.fst).Nodup) (hid : ∀ y ∈ l.set k x, y.1 < 1024) :
    Calls Try.prog 79 #[.pointer (some ⟨P, 0, none⟩), .int .i64 (k : Nat), .agg (cells x)] w (SettleOf w B P n v E (l.set k x)) := by
  have hx : x.1 < 1024 := hid x (List.mem_of_getElem? (set_same hk x))
  obtain ⟨W1, hW1⟩ : ∃ W1, W1 = w.alloc (.cells #[.int .i64 (x.1 : Nat), .int .u8 x.2] 130) := ⟨_, rfl⟩
  have hB1 : Below w.heap.size w W1 := by rw [hW1]; exact (Below.refl _ _).alloc (Nat.le_refl _) _
  have hbx : W1.heap[w.heap.size]? = some (.cells #[.int .i64 (x.1 : Nat), .int .u8 x.2] 130 (0, 0)) := by rw [hW1]; exact World.alloc_heap_new _ _
  have n1 : w.heap.size ≠ P := fun e => by have := lt_of_heap h.blk; omega
  have n2 : v.ownBlock ≠ some w.heap.size := fun e => by have := (h.row.lt _ e).2; omega
  obtain ⟨l0, hl0⟩ : ∃ l0, l0 = l.set k x := ⟨_, rfl⟩
  have gS := Lib.hid (show SetAt W1 W1 B P n v x E l0 k l pl from ⟨h.below hB1, hk, hole, plc, by rw [hl0], But.of_below (Below.refl _ _)⟩)
  have hll : l0.length ≤ 1024 := by rw [hl0, List.length_set]; exact hl
  rw [← hl0] at hnd hid ⊢
  have gnd := Lib.hid hnd
  have gid := Lib.hid hid
  have gb1 := Lib.hid hB1
  have gbx := Lib.hid hbx
  have gn1 := Lib.hid n1
  have gn2 := Lib.hid n2
  clear h hole plc hnd hid hB1 hbx n1 n2 hl0 hk hl
  unfold cells
  go_enter Try.func79, Try.ntmps79
  go_wp2_with fail
  rw [← hW1]
  clear hW1
  go_loopw [1] (fun i wr => ∃ (k : Nat) (l : List It) (pl : List Nat), i = .int .i64 (k : Nat) ∧ Hid (SetAt W1 wr B P n v x E l0 k l pl)) (fun i _ => (intOf i).toNat)
  case atStart => exact ⟨k, l, pl, rfl, gS⟩
  case round =>
    clear gS
    obtain ⟨k, l, pl, rfl, gS⟩ := hrel
    obtain ⟨W, hWr⟩ : ∃ W, W = wr := ⟨_, rfl⟩
    subst hWr
    have hkl := gS.out.kl
    have hlen := gS.out.len
    have hk1 : k ≤ 1024 := by omega
    obtain ⟨g, c, hv, hc, hcm, hit, _, _⟩ := gS.out.qs.shape (by omega)
    obtain ⟨m, hm⟩ : ∃ m, m = l.length := ⟨_, rfl⟩
    rw [← hm] at hv
    subst hv
    have hmi : l0.length = m := by rw [hm, hlen]
    have gm := Lib.hid hm
    have gmi := Lib.hid hmi
    have hbxW := gS.out.box gbx.out gn1.out gn2.out
    have x0 : ∀ y : After W, y.w.cell? ⟨w.heap.size, 0, none⟩ = some (.int .i64 (x.1 : Nat)) := fun y => (cell_of_row y.w w.heap.size 0 _ _ (0, 0) ((y.below.block _ (lt_of_heap hbxW)).trans hbxW)).trans rfl
    have x1 : ∀ y : After W, y.w.cell? ⟨w.heap.size, 1, none⟩ = some (.int .u8 x.2) := fun y => (cell_of_row y.w w.heap.size 1 _ _ (0, 0) ((y.below.block _ (lt_of_heap hbxW)).trans hbxW)).trans rfl
    have k2 : ∀ y : After W, y.w.cell? ⟨P, 2, none⟩ = some (.slice (some ⟨g, 0, none⟩) m c) := fun y => (gS.out.qs.below y.below).c2
    have hmc : (m : Int) ≤ 1024 := by omega
    have hk0 : (0 : Int) ≤ (k : Int) := by omega
    have git := Lib.hid hit
    clear hbxW hit hlen hm hmi
    go_wp2_with fail
    go_cut [20] (fun t wx => t = .bool (upB l k x) ∧ Hid (Below W.heap.size W wx))
    case first =>
      rcases Nat.eq_zero_or_pos k with h0 | h0
      · have hd : decide ((0 : Int) < (k : Int)) = false := decide_eq_false (by omega)
        refine wp_region_after (by kernel_rfl) (by kernel_rfl) ?_
        repeat (go_big_quiet_step (fail))
        refine wpQuiet_nil ?_
        intro _ hw'
        obtain ⟨y, hw''⟩ := hw'
        subst hw''
        go_wp2_with fail
        go_meet
        exact ⟨by simp [upB, h0], y.below⟩
      · have hd : decide ((0 : Int) < (k : Int)) = true := decide_eq_true (by omega)
        obtain ⟨j, hj⟩ : ∃ j, (k - 1) / 2 = j := ⟨_, rfl⟩
        have hjm : j < m := by rw [gm.out]; omega
        obtain ⟨u, hu⟩ : ∃ u, l[j]? = some u := ⟨_, List.getElem?_eq_getElem (by rw [← gm.out]; exact hjm)⟩
        have u0 : ∀ y : After W, y.w.cell? ⟨g, j * 2, none⟩ = some (.int .i64 (u.1 : Nat)) := fun y => (y.below.cell (p := ⟨g, j * 2, none⟩) (lt_of_cell (git.out _ _ hu).1)).trans (git.out _ _ hu).1
        have u1 : ∀ y : After W, y.w.cell? ⟨g, j * 2 + 1, none⟩ = some (.int .u8 u.2) := fun y => (y.below.cell (p := ⟨g, j * 2 + 1, none⟩) (lt_of_cell (git.out _ _ hu).2)).trans (git.out _ _ hu).2
        have hji : (j : Int) < (m : Int) := by omega
        have hj0 : (0 : Int) ≤ (j : Int) := by omega
        have hup : upB l k x = lt x u := by
          unfold upB
          obtain ⟨k', rfl⟩ : ∃ k', k = k' + 1 := ⟨k - 1, by omega⟩
          rw [hj, hu]
        have gj := Lib.hid hj
        have ghup := Lib.hid hup
        clear hup hu hj
        refine wp_region_after (by kernel_rfl) (by kernel_rfl) ?_
        repeat (go_big_quiet_step (first | (go_at_call 93; exact (parent_at k j h0 hk1 gj.out _).mono fun _ _ h => After.same h) | (go_at_call 100; exact (before_any x u _).mono fun _ _ h => After.ends h)))
        refine wpQuiet_nil ?_
        intro _ hw'
        obtain ⟨y, hw''⟩ := hw'
        subst hw''
        go_wp2_with fail
        go_meet
        exact ⟨by rw [ghup.out], y.below⟩
    case rest =>
      obtain ⟨rfl, gb⟩ := hcut
      have gSc := Lib.hid (gS.out.below gb.out)
      cases hub : upB l k x with
      | true =>
        have h0 : 0 < k := by
          rcases Nat.eq_zero_or_pos k with h0 | h0
          · rw [h0] at hub; simp [upB] at hub
          · exact h0
        obtain ⟨j, hj⟩ : ∃ j, (k - 1) / 2 = j := ⟨_, rfl⟩
        have hjm : j < m := by rw [gm.out]; omega
        obtain ⟨u, hu⟩ : ∃ u, l[j]? = some u := ⟨_, List.getElem?_eq_getElem (by rw [← gm.out]; exact hjm)⟩
        have hux : lt x u = true := by
          unfold upB at hub
          obtain ⟨k', rfl⟩ : ∃ k', k = k' + 1 := ⟨k - 1, by omega⟩
          rw [hj, hu] at hub
          exact hub
        have k2c : wc.cell? ⟨P, 2, none⟩ = some (.slice (some ⟨g, 0, none⟩) m c) := gSc.out.qs.c2
        have u0 := (gb.out.cell (p := ⟨g, j * 2, none⟩) (lt_of_cell (git.out _ _ hu).1)).trans (git.out _ _ hu).1
        have u1 := (gb.out.cell (p := ⟨g, j * 2 + 1, none⟩) (lt_of_cell (git.out _ _ hu).2)).trans (git.out _ _ hu).2
        have hji : (j : Int) < (m : Int) := by omega
        have hj0 : (0 : Int) ≤ (j : Int) := by omega
        have hkj : k ≠ j := by omega
        have hjk : j < k := by omega
        have gj := Lib.hid hj
        have gu := Lib.hid hu
        have huid := Lib.hid (gSc.out.id gid.out hkj hu)
        clear x0 x1 k2 hub hj hu hux
        go_wp2_with fail
        go_region_held3 (fun w' => w'.cell? ⟨P, 2, none⟩ = some (.slice (some ⟨g, 0, none⟩) m c) ∧ w'.cell? ⟨g, j * 2, none⟩ = some (.int .i64 (u.1 : Nat)) ∧ w'.cell? ⟨g, j * 2 + 1, none⟩ = some (.int .u8 u.2))
          (first | go_keep | exact ⟨k2c, u0, u1⟩ | exact ⟨k2d, hit2.1, hit2.2⟩)
          (first
          | (go_at_call 93; refine (parent_at k j h0 hk1 gj.out _).mono ?_; rintro e w' ⟨rfl, rfl⟩)
          | (go_at_call 101; refine (put_any _ B P n k _ l pl u (gSc.out.below ((Below.refl wc.heap.size wc).drew)).qs hkl huid.out).mono ?_; rintro e w2 ⟨⟨r, rfl⟩, gq⟩
             have k2d : w2.cell? ⟨P, 2, none⟩ = some (.slice (some ⟨g, 0, none⟩) m c) := gq.out.1.c2
             have hit2 := gq.out.1.item (i := j) (x := u) (by rw [set_other (Ne.symm hkj)]; exact gu.out)))
        go_wp2_with (go_at_call 93; refine (parent_at k j h0 hk1 gj.out _).mono ?_; rintro e w' ⟨rfl, rfl⟩)
        go_roundw
        case rel =>
          have hq := gq.out
          have hw := (Below.refl wc.heap.size wc).drew
          have gS2 := gSc.out.below hw
          exact ⟨j, l.set k u, pl.set u.1 (k + 1), rfl, gS2.move gnd.out hkj gu.out (by have := hole_up iord gS2.hole h0 hkl (p := u) (by rw [gj.out]; exact gu.out); rw [gj.out] at this; exact this) hq⟩
        case measure => simp [intOf]; omega
      | false =>
        have hup : 0 < k → ∀ p, l[(k - 1) / 2]? = some p → lt x p = false := by
          intro h0 p hp
          unfold upB at hub
          obtain ⟨k', rfl⟩ : ∃ k', k = k' + 1 := ⟨k - 1, by omega⟩
          rw [hp] at hub
          exact hub
        obtain ⟨cc, hcc⟩ : ∃ cc, firstC l k = cc := ⟨_, rfl⟩
        have ghup := Lib.hid hup
        have gcc := Lib.hid hcc
        have hlen2 : l.length ≤ 1024 := by rw [← gm.out]; omega
        clear x0 x1 k2 hub hup hcc git gS gb
        go_wp2_with (go_at_call 102; refine (child_at gSc.out.qs hkl hlen2 gcc.out).mono ?_; rintro e w2 ⟨rfl, hb2⟩; have gS2 := Lib.hid (gSc.out.below hb2); clear hb2)
        go_loopw [1, 6] (fun i c' wr => ∃ (k cc : Nat) (l : List It) (pl : List Nat), i = .int .i64 (k : Nat) ∧ c' = .int .i64 (cc : Nat) ∧ Hid (firstC l k = cc ∧ (0 < k → ∀ p, l[(k - 1) / 2]? = some p → lt x p = false) ∧ SetAt W1 wr B P n (.slice (some ⟨g, 0, none⟩) m c) x E l0 k l pl)) (fun i _ _ => m - (intOf i).toNat)
        case atStart => exact ⟨k, cc, l, pl, rfl, rfl, gcc.out, ghup.out, gS2.out⟩
        case round =>
          clear gS2 gSc gcc ghup gm hlen2 hkl hk1 hk0 hc
          obtain ⟨k, cc, l, pl, rfl, rfl, gR⟩ := hrel
          obtain ⟨V, hVr⟩ : ∃ V, V = wr := ⟨_, rfl⟩
          subst hVr
          have gS := Lib.hid gR.out.2.2
          have gup := Lib.hid gR.out.2.1
          have gcc := Lib.hid gR.out.1
          have hkl := gS.out.kl
          have hlm : l.length = m := gS.out.len.trans gmi.out
          have hk0 : (0 : Int) ≤ (k : Int) := by omega
          have hcc0 : (0 : Int) ≤ (cc : Int) := by omega
          have hkm : (k : Int) < (m : Int) := by omega
          have hfc := firstC_parent l k
          rw [gcc.out] at hfc
          have gfc := Lib.hid hfc
          have hbxV := gS.out.box gbx.out gn1.out gn2.out
          have x0 : ∀ y : After V, y.w.cell? ⟨w.heap.size, 0, none⟩ = some (.int .i64 (x.1 : Nat)) := fun y => (cell_of_row y.w w.heap.size 0 _ _ (0, 0) ((y.below.block _ (lt_of_heap hbxV)).trans hbxV)).trans rfl
          have x1 : ∀ y : After V, y.w.cell? ⟨w.heap.size, 1, none⟩ = some (.int .u8 x.2) := fun y => (cell_of_row y.w w.heap.size 1 _ _ (0, 0) ((y.below.block _ (lt_of_heap hbxV)).trans hbxV)).trans rfl
          have k2 : ∀ y : After V, y.w.cell? ⟨P, 2, none⟩ = some (.slice (some ⟨g, 0, none⟩) m c) := fun y => (gS.out.qs.below y.below).c2
          have glm := Lib.hid hlm
          clear gR hfc hbxV
          go_wp2_with fail
          go_cut [54] (fun t wx => t = .bool (downB l k x) ∧ Hid (Below V.heap.size V wx))
          case first =>
            cases hlk : l[cc]? with
            | none =>
              have hge : l.length ≤ cc := List.getElem?_eq_none_iff.1 hlk
              have hd : decide (cc < m) = false := decide_eq_false (by omega)
              have hdb : downB l k x = false := by unfold downB; rw [gcc.out, hlk]
              have ghdb := Lib.hid hdb
              clear hlk hge hdb hlm
              refine wp_region_after (by kernel_rfl) (by kernel_rfl) ?_
              repeat (go_big_quiet_step (fail))
              refine wpQuiet_nil ?_
              intro _ hw'
              obtain ⟨y, hw''⟩ := hw'
              subst hw''
              go_wp2_with fail
              go_meet
              exact ⟨by rw [ghdb.out], y.below⟩
            | some u =>
              have hlt : cc < l.length := lt_of_some hlk
              have hd : decide (cc < m) = true := decide_eq_true (by omega)
              have hcm2 : (cc : Int) < (m : Int) := by omega
              have hdb : downB l k x = lt u x := by unfold downB; rw [gcc.out, hlk]
              have ghdb := Lib.hid hdb
              have u0 : ∀ y : After V, y.w.cell? ⟨g, cc * 2, none⟩ = some (.int .i64 (u.1 : Nat)) := fun y => ((gS.out.qs.below y.below).item hlk).1
              have u1 : ∀ y : After V, y.w.cell? ⟨g, cc * 2 + 1, none⟩ = some (.int .u8 u.2) := fun y => ((gS.out.qs.below y.below).item hlk).2
              clear hlk hlt hdb hlm
              refine wp_region_after (by kernel_rfl) (by kernel_rfl) ?_
              repeat (go_big_quiet_step (first | (go_at_call 100; exact (before_any u x _).mono fun _ _ h => After.ends h)))
              refine wpQuiet_nil ?_
              intro _ hw'
              obtain ⟨y, hw''⟩ := hw'
              subst hw''
              go_wp2_with fail
              go_meet
              exact ⟨by rw [ghdb.out], y.below⟩
          case rest =>
            obtain ⟨rfl, gb⟩ := hcut
            have gSc := Lib.hid (gS.out.below gb.out)
            cases hdb : downB l k x with
            | true =>
              obtain ⟨u, hu⟩ : ∃ u, l[cc]? = some u := by
                cases hlk : l[cc]? with
                | none => unfold downB at hdb; rw [gcc.out, hlk] at hdb; cases hdb
                | some u => exact ⟨u, rfl⟩
              have hux : lt u x = true := by unfold downB at hdb; rw [gcc.out, hu] at hdb; exact hdb
              have hcl : cc < l.length := lt_of_some hu
              have hkc : k ≠ cc := by have := gfc.out; omega
              have k2c : wc.cell? ⟨P, 2, none⟩ = some (.slice (some ⟨g, 0, none⟩) m c) := gSc.out.qs.c2
              obtain ⟨u0, u1⟩ := gSc.out.qs.item hu
              have hcm2 : (cc : Int) < (m : Int) := by omega
              have huid := Lib.hid (gSc.out.id gid.out hkc hu)
              have ghu := Lib.hid hu
              have ghux := Lib.hid hux
              have hclm : cc < m := by omega
              obtain ⟨c3, hc3⟩ : ∃ c3, firstC (l.set k u) cc = c3 := ⟨_, rfl⟩
              have gc3 := Lib.hid hc3
              have hl3 : (l.set k u).length ≤ 1024 := by rw [List.length_set]; omega
              have hcl3 : cc < (l.set k u).length := by rw [List.length_set]; exact hcl
              clear x0 x1 k2 hdb hu hux hc3 hlm
              go_wp2_with (first
                | (go_at_call 101; refine (put_any _ B P n k _ l pl u gSc.out.qs hkl huid.out).mono ?_; rintro e w3 ⟨⟨r, rfl⟩, gq⟩)
                | (go_at_call 102; refine (child_at gq.out.1 hcl3 hl3 gc3.out).mono ?_; rintro e w4 ⟨rfl, hb4⟩; have gb4 := Lib.hid hb4; clear hb4))
              go_roundw
              case rel =>
                have hM := (gSc.out.move gnd.out hkc ghu.out (hole_down gSc.out.hole gfc.out.1 gfc.out.2 hkl ghu.out (firstC_min (by rw [gcc.out]; exact ghu.out))) gq.out).below gb4.out
                refine ⟨cc, c3, l.set k u, pl.set u.1 (k + 1), rfl, rfl, gc3.out, fun _ p hp => ?_, hM⟩
                rw [gfc.out.2, set_same hkl] at hp
                obtain rfl : u = p := by injection hp
                exact iord.asymm ghux.out
              case measure => have := gfc.out; simp [intOf]; omega
            | false =>
              have x0c := x0 ⟨wc, gb.out⟩
              have x1c := x1 ⟨wc, gb.out⟩
              dsimp only at x0c x1c
              have ghdb := Lib.hid hdb
              clear x0 x1 k2 hdb hlm
              go_wp2_with (go_at_call 101; refine (put_any _ B P n k _ l pl x gSc.out.qs hkl hx).mono ?_; rintro e w3 ⟨⟨r, rfl⟩, gq⟩)
              go_end0
              exact ⟨⟨_, rfl⟩, settle_ends gSc.out gnd.out gup.out ghdb.out gq.out |>.imp fun G h => h.imp fun pl h => ⟨h.1, h.2.1, h.2.2.1, h.2.2.2.1, (But.of_below gb1.out).trans h.2.2.2.2⟩⟩
end Go.Proofs.Ytepgdeokjgjapaa.QU
