/- Pure facts: ascending keys, how many are less, inserting and deleting. -/
import Derived.PlainAid
namespace Go.Proofs.Ytmjdkmdpegcalaa

/-- A strict order of keys, in which two that are not apart are one. -/
structure KOrd {κ : Type} (lt : κ → κ → Bool) : Prop where
  irr : ∀ a, lt a a = false
  tr : ∀ {a b c}, lt a b = true → lt b c = true → lt a c = true
  tri : ∀ {a b}, lt a b = false → lt b a = false → a = b

/-- Ascending. -/
def Asc {κ : Type} (lt : κ → κ → Bool) (ks : List κ) : Prop := ks.Pairwise fun a b => lt a b = true
/-- How many are less than k; how many are not greater. -/
def rkB {κ : Type} (lt : κ → κ → Bool) (ks : List κ) (k : κ) : Nat := ks.countP fun s => lt s k
def rkL {κ : Type} (lt : κ → κ → Bool) (ks : List κ) (k : κ) : Nat := ks.countP fun s => !lt k s

section
variable {κ : Type} {lt : κ → κ → Bool}
theorem KOrd.asym (h : KOrd lt) {a b : κ} (hab : lt a b = true) : lt b a = false := by
  cases hb : lt b a with
  | false => rfl
  | true => have := h.tr hab hb; rw [h.irr] at this; cases this
theorem rkB_le (ks : List κ) (k : κ) : rkB lt ks k ≤ ks.length := List.countP_le_length
theorem rkL_le (ks : List κ) (k : κ) : rkL lt ks k ≤ ks.length := List.countP_le_length

/-- A test that goes from yes to no once: how many say yes says which. -/
theorem countP_prefix {p : κ → Bool} : ∀ (ks : List κ), (ks.Pairwise fun a b => p b = true → p a = true) → ∀ j (hj : j < ks.length), p ks[j] = decide (j < ks.countP p)
  | [], _, j, hj => by simp at hj
  | x :: ks, h, j, hj => by
    obtain ⟨h1, h2⟩ := List.pairwise_cons.1 h
    cases hx : p x with
    | true =>
      cases j with
      | zero => simp [hx]
      | succ j =>
        have := countP_prefix ks h2 j (by simpa using hj)
        simp [hx, this]
    | false =>
      have h0 : ks.countP p = 0 := List.countP_eq_zero.2 fun y hy hp => by have := h1 y hy hp; rw [hx] at this; cases this
      cases j with
      | zero => simp [hx, h0]
      | succ j =>
        have hm : ks[j]'(by simpa using hj) ∈ ks := List.getElem_mem _
        have : p (ks[j]'(by simpa using hj)) = false := by
          cases hq : p (ks[j]'(by simpa using hj)) with
          | false => rfl
          | true => have := h1 _ hm hq; rw [hx] at this; cases this
        simp [hx, h0, this]
theorem rkB_iff (h : KOrd lt) {ks : List κ} (ha : Asc lt ks) (k : κ) {j : Nat} (hj : j < ks.length) : lt ks[j] k = decide (j < rkB lt ks k) :=
  countP_prefix (p := fun s => lt s k) ks (ha.imp fun hab hb => h.tr hab hb) j hj
theorem rkL_iff (h : KOrd lt) {ks : List κ} (ha : Asc lt ks) (k : κ) {j : Nat} (hj : j < ks.length) : (!lt k ks[j]) = decide (j < rkL lt ks k) :=
  countP_prefix (p := fun s => !lt k s) ks (ha.imp fun {a b} hab hb => by
    cases hk : lt k a with
    | false => rfl
    | true => rw [h.tr hk hab] at hb; cases hb) j hj
/-- There is the key. -/
def hasB [BEq κ] (lt : κ → κ → Bool) (ks : List κ) (k : κ) : Bool := match ks[rkB lt ks k]? with | some x => x == k | none => false
theorem hasB_false [BEq κ] {ks : List κ} {k : κ} (h : ks.length ≤ rkB lt ks k) : hasB lt ks k = false := by
  unfold hasB; rw [List.getElem?_eq_none h]
theorem hasB_lt [BEq κ] {ks : List κ} {k : κ} (h : hasB lt ks k = true) : rkB lt ks k < ks.length := by
  rcases Nat.lt_or_ge (rkB lt ks k) ks.length with hl | hl
  · exact hl
  · rw [hasB_false hl] at h; cases h
theorem hasB_eq [BEq κ] {ks : List κ} {k : κ} (h : rkB lt ks k < ks.length) : hasB lt ks k = (ks[rkB lt ks k] == k) := by
  unfold hasB; rw [List.getElem?_eq_getElem h]
theorem hasB_mem [BEq κ] [LawfulBEq κ] (ho : KOrd lt) {ks : List κ} (ha : Asc lt ks) (k : κ) : hasB lt ks k = true ↔ k ∈ ks := by
  constructor
  · intro h
    have hl := hasB_lt h
    rw [hasB_eq hl] at h
    rw [← eq_of_beq h]
    exact List.getElem_mem _
  · intro hm
    obtain ⟨j, hj, rfl⟩ := List.mem_iff_getElem.1 hm
    have e : rkB lt ks ks[j] = j := by
      have h1 := rkB_iff ho ha ks[j] hj
      rw [ho.irr] at h1
      have h1' : ¬ j < rkB lt ks ks[j] := by simpa using h1.symm
      rcases Nat.lt_or_ge (rkB lt ks ks[j]) j with hlt | hge
      · have h2 := rkB_iff ho ha ks[j] (Nat.lt_trans hlt hj)
        have h3 := (List.pairwise_iff_getElem.1 ha) _ _ (Nat.lt_trans hlt hj) hj hlt
        rw [h3] at h2
        have : rkB lt ks ks[j] < rkB lt ks ks[j] := by simpa using h2.symm
        omega
      · omega
    rw [hasB_eq (by rw [e]; exact hj)]
    simp [e]
/-- The rank of a key that is there. -/
theorem rkB_at (ho : KOrd lt) {ks : List κ} (ha : Asc lt ks) {j : Nat} (hj : j < ks.length) : rkB lt ks ks[j] = j := by
  have h1 := rkB_iff ho ha ks[j] hj
  rw [ho.irr] at h1
  have h1' : ¬ j < rkB lt ks ks[j] := by simpa using h1.symm
  rcases Nat.lt_or_ge (rkB lt ks ks[j]) j with hlt | hge
  · have h2 := rkB_iff ho ha ks[j] (Nat.lt_trans hlt hj)
    have h3 := (List.pairwise_iff_getElem.1 ha) _ _ (Nat.lt_trans hlt hj) hj hlt
    rw [h3] at h2
    have : rkB lt ks ks[j] < rkB lt ks ks[j] := by simpa using h2.symm
    omega
  · omega
theorem rkL_eq [BEq κ] [LawfulBEq κ] (ho : KOrd lt) {ks : List κ} (ha : Asc lt ks) (k : κ) : rkL lt ks k = rkB lt ks k + if hasB lt ks k then 1 else 0 := by
  have hb := rkB_le (lt := lt) ks k
  have hl := rkL_le (lt := lt) ks k
  have hle : rkB lt ks k ≤ rkL lt ks k := by
    unfold rkB rkL
    exact List.countP_mono_left fun x _ h => by rw [ho.asym h]; rfl
  cases hh : hasB lt ks k with
  | true =>
    have hlt := hasB_lt hh
    have he := eq_of_beq ((hasB_eq hlt).symm.trans hh)
    have h1 := rkL_iff ho ha k hlt
    rw [he, ho.irr] at h1
    have h1' : rkB lt ks k < rkL lt ks k := by simpa using h1.symm
    rcases Nat.lt_or_ge (rkB lt ks k + 1) (rkL lt ks k) with h2 | h2
    · have h3 := rkL_iff ho ha k (j := rkB lt ks k + 1) (by omega)
      have h4 := (List.pairwise_iff_getElem.1 ha) (rkB lt ks k) (rkB lt ks k + 1) hlt (by omega) (by omega)
      rw [he] at h4
      rw [h4, decide_eq_true h2] at h3
      cases h3
    · simp; omega
  | false =>
    rcases Nat.lt_or_ge (rkB lt ks k) (rkL lt ks k) with h2 | h2
    · have h3 := rkL_iff ho ha k (j := rkB lt ks k) (by omega)
      have h4 := rkB_iff ho ha k (j := rkB lt ks k) (by omega)
      rw [decide_eq_true h2] at h3
      rw [decide_eq_false (Nat.lt_irrefl _)] at h4
      have h5 := ho.tri h4 (by simpa using h3)
      rw [hasB_eq (by omega), h5] at hh
      simp at hh
    · simp; omega
end

section
variable {κ β : Type} {lt : κ → κ → Bool}
abbrev keysOf (l : List (κ × β)) : List κ := l.map Prod.fst
/-- What Set leaves; what Delete leaves. -/
def putL [BEq κ] (lt : κ → κ → Bool) (l : List (κ × β)) (k : κ) (v : β) : List (κ × β) :=
  if hasB lt (keysOf l) k then l.set (rkB lt (keysOf l) k) (k, v) else l.take (rkB lt (keysOf l) k) ++ (k, v) :: l.drop (rkB lt (keysOf l) k)
def delL [BEq κ] (lt : κ → κ → Bool) (l : List (κ × β)) (k : κ) : List (κ × β) :=
  if hasB lt (keysOf l) k then l.take (rkB lt (keysOf l) k) ++ l.drop (rkB lt (keysOf l) k + 1) else l
def getL [BEq κ] (lt : κ → κ → Bool) (l : List (κ × β)) (k : κ) (z : κ × β) : β := if hasB lt (keysOf l) k then (l.getD (rkB lt (keysOf l) k) z).2 else z.2

theorem asc_ins [BEq κ] [LawfulBEq κ] (ho : KOrd lt) {l : List (κ × β)} (ha : Asc lt (keysOf l)) {k : κ} (hh : hasB lt (keysOf l) k = false) (v : β) :
    Asc lt (keysOf (l.take (rkB lt (keysOf l) k) ++ (k, v) :: l.drop (rkB lt (keysOf l) k))) := by
  obtain ⟨r, hr⟩ : ∃ r, r = rkB lt (keysOf l) k := ⟨_, rfl⟩
  rw [← hr]
  have e : keysOf (l.take r ++ (k, v) :: l.drop r) = (keysOf l).take r ++ k :: (keysOf l).drop r := by simp [keysOf, List.map_take, List.map_drop]
  rw [e]
  generalize hK : keysOf l = ks at *
  have hle := rkB_le (lt := lt) ks k
  rw [← hr] at hle
  refine List.pairwise_append.2 ⟨ha.sublist (List.take_sublist _ _), List.pairwise_cons.2 ⟨fun x hx => ?_, ha.sublist (List.drop_sublist _ _)⟩, fun a ham b hb => ?_⟩
  · obtain ⟨j, hj, rfl⟩ := List.mem_iff_getElem.1 hx
    rw [List.getElem_drop]
    have hlen : r + j < ks.length := by simp at hj; omega
    have h1 := rkB_iff ho ha k hlen
    rw [← hr, decide_eq_false (by omega)] at h1
    cases h2 : lt k ks[r + j] with
    | true => rfl
    | false =>
      have h3 := ho.tri h1 h2
      have := (hasB_mem ho ha k).2 (by rw [← h3]; exact List.getElem_mem _)
      rw [this] at hh; cases hh
  · obtain ⟨j, hj, rfl⟩ := List.mem_iff_getElem.1 ham
    have hj' : j < r ∧ j < ks.length := by simp at hj; omega
    rw [List.getElem_take]
    have h1 := rkB_iff ho ha k hj'.2
    rw [← hr, decide_eq_true hj'.1] at h1
    rcases List.mem_cons.1 hb with rfl | hb
    · exact h1
    · obtain ⟨i, hi, rfl⟩ := List.mem_iff_getElem.1 hb
      rw [List.getElem_drop]
      exact (List.pairwise_iff_getElem.1 ha) j (r + i) hj'.2 (by simp at hi; omega) (by omega)
theorem asc_put [BEq κ] [LawfulBEq κ] (ho : KOrd lt) {l : List (κ × β)} (ha : Asc lt (keysOf l)) (k : κ) (v : β) : Asc lt (keysOf (putL lt l k v)) := by
  unfold putL
  cases hh : hasB lt (keysOf l) k with
  | false => simpa using asc_ins ho ha hh v
  | true =>
    have hlt := hasB_lt hh
    have he := eq_of_beq ((hasB_eq hlt).symm.trans hh)
    have e : keysOf (l.set (rkB lt (keysOf l) k) (k, v)) = keysOf l := by
      unfold keysOf
      rw [List.map_set]
      apply List.ext_getElem (by simp)
      intro i h1 h2
      rw [List.getElem_set]
      split
      · rename_i h; subst h; exact he.symm
      · rfl
    simp only [if_true]
    rw [e]; exact ha
theorem asc_del [BEq κ] {l : List (κ × β)} (ha : Asc lt (keysOf l)) (k : κ) : Asc lt (keysOf (delL lt l k)) := by
  unfold delL
  split
  · refine ha.sublist ?_
    unfold keysOf
    rw [List.map_append, List.map_take, List.map_drop]
    obtain ⟨r, hr⟩ : ∃ r, r = rkB lt (l.map Prod.fst) k := ⟨_, rfl⟩
    rw [← hr]
    have h1 : List.Sublist (List.drop (r + 1) (l.map Prod.fst)) (List.drop r (l.map Prod.fst)) := by
      rw [← List.drop_drop]; exact List.drop_sublist _ _
    calc List.Sublist (List.take r (l.map Prod.fst) ++ List.drop (r + 1) (l.map Prod.fst)) (List.take r (l.map Prod.fst) ++ List.drop r (l.map Prod.fst)) := List.Sublist.append (List.Sublist.refl _) h1
      _ = _ := List.take_append_drop _ _
  · exact ha
theorem length_ins (l : List (κ × β)) (r : Nat) (x : κ × β) (hr : r ≤ l.length) : (l.take r ++ x :: l.drop r).length = l.length + 1 := by simp; omega
end

theorem kord_int : KOrd (fun a b : Int => decide (a < b)) := ⟨fun a => by simp, fun h1 h2 => by simp at *; omega, fun h1 h2 => by simp at *; omega⟩
end Go.Proofs.Ytmjdkmdpegcalaa
