/- What Install answers, said plainly; and rows of chains of which one is put in, or has one version more. -/
import Derived.Test.YtkafanjfjplakaaGreatDoorAddC
import Derived.Test.YtkafanjfjplakaaGreatDoorBxsC
import Derived.Test.YtkafanjfjplakaaGreatDoorChnH
namespace Go.Proofs.YtkafanjfjplakaaGreatDoor.Co
open Go.RowKit Tr
set_option linter.unusedVariables false

abbrev verW (t : Int) (x : Wrt) : Ver := ⟨t, x.gone, x.doc⟩
/-- The collection with one version more, the chain's place being known. -/
def insK (c : Col) (t : Int) (x : Wrt) (k : Nat) (b : Bool) : Col × Int :=
  if b = true then
    (match c.chs[k]? with
    | some y => if addC y.vs (verW t x) = 0 then (⟨c.name, c.chs.set k ⟨y.id, y.vs ++ [verW t x]⟩, c.dfs⟩, 0) else (c, addC y.vs (verW t x))
    | none => (c, 0))
  else (⟨c.name, c.chs.take k ++ ⟨x.id, [verW t x]⟩ :: c.chs.drop k, c.dfs⟩, 0)
def plN (id : Int) (l : List Chn) : Nat := (l.takeWhile (fun y => decide (y.id < id))).length
def hasN (id : Int) (l : List Chn) : Bool := match l[plN id l]? with | some y => decide (y.id = id) | none => false
def insR (c : Col) (t : Int) (x : Wrt) : Col × Int :=
  if collB c = true ∧ writeB x = true ∧ (x.coll.toList == c.name.toList) = true then (if timeB t = true then insK c t x (plN x.id c.chs) (hasN x.id c.chs) else (zCol, 4)) else (zCol, 1)
theorem place_n (id : Int) : ∀ (l : List Chn) (i : Nat) (b : Bool), PlaceC l id i b → i = plN id l
  | [], i, b, h => by have := h.le; simp at this; rw [this]; rfl
  | y :: r, i, b, h => by
    by_cases hy : y.id < id
    · have e : plN id (y :: r) = plN id r + 1 := by unfold plN; rw [List.takeWhile_cons, if_pos (by simpa using hy), List.length_cons]
      cases i with
      | zero => exact absurd (h.hi 0 (by simp) (Nat.le_refl _)) (by simp; omega)
      | succ i =>
        have hr : PlaceC r id i b := ⟨by have := h.le; simp at this; omega, fun q hq hlt => h.lo (q + 1) (by simp; omega) (by omega), fun q hq hge => h.hi (q + 1) (by simp; omega) (by omega), by
          rw [h.at_]
          constructor
          · rintro ⟨h1, h2⟩; exact ⟨by simpa using h1, by simpa using h2⟩
          · rintro ⟨h1, h2⟩; exact ⟨by simpa using h1, by simpa using h2⟩⟩
        rw [e, place_n id r i b hr]
    · have e : plN id (y :: r) = 0 := by unfold plN; rw [List.takeWhile_cons, if_neg (by simpa using hy)]; rfl
      cases i with
      | zero => exact e.symm
      | succ i => exact absurd (h.lo 0 (by simp) (by omega)) (by simpa using hy)
theorem place_has {id : Int} {l : List Chn} {i : Nat} {b : Bool} (h : PlaceC l id i b) : b = hasN id l := by
  have e := place_n id l i b h
  unfold hasN
  rw [← e]
  cases b with
  | true =>
    obtain ⟨h1, h2⟩ := h.at_.1 rfl
    rw [List.getElem?_eq_getElem h1]
    simp [h2]
  | false =>
    by_cases hi : i < l.length
    · rw [List.getElem?_eq_getElem hi]
      have : ¬ l[i].id = id := fun e2 => by have := h.at_.2 ⟨hi, e2⟩; cases this
      simp [this]
    · rw [List.getElem?_eq_none (by omega)]
theorem insR_bad {c : Col} {t : Int} {x : Wrt} (h : ¬ (collB c = true ∧ writeB x = true ∧ (x.coll.toList == c.name.toList) = true)) : insR c t x = (zCol, 1) := by unfold insR; rw [if_neg h]
theorem insR_time {c : Col} {t : Int} {x : Wrt} (h1 : collB c = true) (h2 : writeB x = true) (h3 : (x.coll.toList == c.name.toList) = true) (h4 : timeB t = false) : insR c t x = (zCol, 4) := by unfold insR; rw [if_pos ⟨h1, h2, h3⟩, if_neg (by rw [h4]; simp)]
theorem insR_at {c : Col} {t : Int} {x : Wrt} {k : Nat} {b : Bool} (h1 : collB c = true) (h2 : writeB x = true) (h3 : (x.coll.toList == c.name.toList) = true) (h4 : timeB t = true) (hp : PlaceC c.chs x.id k b) : insR c t x = insK c t x k b := by
  unfold insR; rw [if_pos ⟨h1, h2, h3⟩, if_pos h4, ← place_n _ _ _ _ hp, ← place_has hp]
theorem insK_some {c : Col} {t : Int} {x : Wrt} {k : Nat} (hk : k < c.chs.length) (ha : addC c.chs[k].vs (verW t x) = 0) : insK c t x k true = (⟨c.name, c.chs.set k ⟨c.chs[k].id, c.chs[k].vs ++ [verW t x]⟩, c.dfs⟩, 0) := by
  unfold insK; rw [if_pos rfl, List.getElem?_eq_getElem hk]; simp only; rw [if_pos ha]
theorem insK_code {c : Col} {t : Int} {x : Wrt} {k : Nat} (hk : k < c.chs.length) (ha : ¬ addC c.chs[k].vs (verW t x) = 0) : insK c t x k true = (c, addC c.chs[k].vs (verW t x)) := by
  unfold insK; rw [if_pos rfl, List.getElem?_eq_getElem hk]; simp only; rw [if_neg ha]
theorem insK_new (c : Col) (t : Int) (x : Wrt) (k : Nat) : insK c t x k false = (⟨c.name, c.chs.take k ++ ⟨x.id, [verW t x]⟩ :: c.chs.drop k, c.dfs⟩, 0) := by
  unfold insK; rw [if_neg (by simp)]
theorem addC_nil {t : Int} {x : Wrt} (h : timeB t = true) : addC [] (verW t x) = 0 := by
  have h1 : 1 ≤ t ∧ t ≤ 10000 := of_decide_eq_true h
  have h0 : newT [] = 0 := rfl
  unfold addC
  rw [h0, if_neg (by show ¬ t ≤ 0; omega)]
  rfl
/-- Small enough for the laws' helpers. -/
theorem insR_small (c : Col) (t : Int) (x : Wrt) : SmCol (insR c t x).1 := by
  unfold insR
  split
  · rename_i hh
    obtain ⟨hB, _, _⟩ := hh
    have hpt := collB_parts hB
    have hdf := collB_defs hB
    have h20 := hpt.2.2.2.1
    have hv := fun y hy => (hpt.2.2.2.2.2 y hy).2.2.1
    have hd1 := hdf.1
    split
    · unfold insK
      split
      · split
        · rename_i y hy
          have hm : y ∈ c.chs := List.mem_of_getElem? hy
          split
          · refine ⟨by simp; omega, fun p hp => ?_, by show c.dfs.length ≤ _; omega, fun p hp => by have := (hdf.2 p hp).2; omega⟩
            rcases List.mem_or_eq_of_mem_set hp with h | h
            · have := hv p h; omega
            · rw [h]; have := hv y hm; simp; omega
          · exact ⟨by show c.chs.length ≤ _; omega, fun p hp => by have := hv p hp; omega, by show c.dfs.length ≤ _; omega, fun p hp => by have := (hdf.2 p hp).2; omega⟩
        · exact ⟨by show c.chs.length ≤ _; omega, fun p hp => by have := hv p hp; omega, by show c.dfs.length ≤ _; omega, fun p hp => by have := (hdf.2 p hp).2; omega⟩
      · refine ⟨by simp; omega, fun p hp => ?_, by show c.dfs.length ≤ _; omega, fun p hp => by have := (hdf.2 p hp).2; omega⟩
        rcases List.mem_append.1 hp with h | h
        · have := hv p (List.mem_of_mem_take h); omega
        · rcases List.mem_cons.1 h with h | h
          · rw [h]; simp
          · have := hv p (List.mem_of_mem_drop h); omega
    · exact ⟨by simp [zCol], by simp [zCol], by simp [zCol], by simp [zCol]⟩
  · exact ⟨by simp [zCol], by simp [zCol], by simp [zCol], by simp [zCol]⟩

theorem off_flip {a : Option Nat} {b : Option Nat} (h : a = none ∨ a ≠ b) : b = none ∨ b ≠ a := by
  rcases h with h | h
  · cases b with
    | none => exact .inl rfl
    | some g => exact .inr (by rw [h]; simp)
  · exact .inr (fun e => h e.symm)
/-- One chain of a row has other versions. -/
theorem PartCh.addAt {w w1 : World} {base g c n : Nat} {f : List Chn} {vs : Nat → Value} {xs : List Value} (h : PartCh w base (.slice (some ⟨g, 0, none⟩) n c) n f n vs xs) (hn : f.length = n) {k : Nat} (hk : k < n) {u' : Value} {es : List Ver}
    (hg : w.grownBy w1 (vs k).ownBlock) (ho : OwnVr w1 base u' es) (hat : u'.ownBlock = (vs k).ownBlock ∨ ∃ b, w.heap.size ≤ b ∧ u'.ownBlock = some b) :
    PartCh (w1.setCell ⟨g, k * 2 + 1, none⟩ u') base (.slice (some ⟨g, 0, none⟩) n c) n (f.set k ⟨(f[k]'(by omega)).id, es⟩) n (fun i => if i = k then u' else vs i) (xs.set (k * 2 + 1) u') := by
  have hl : xs.length = n * 2 := h.row.1
  have hgl := (h.row.lt g rfl).2
  have hkr : w1.ownsRow base 94 2 (.slice (some ⟨g, 0, none⟩) n c) n xs := h.row.kept hg (off_flip (h.aside k (by omega) hk))
  have hug : u'.ownBlock = none ∨ u'.ownBlock ≠ some g := by
    rcases hat with e | ⟨b, hb, e⟩
    · rw [e]; exact h.aside k (by omega) hk
    · rw [e]; exact .inr (fun e2 => by injection e2 with e2; omega)
  have hnew : ∀ i, i < n → i ≠ k → ((vs i).ownBlock = none ∨ (vs i).ownBlock ≠ u'.ownBlock) := by
    intro i hi hne
    rcases hat with e | ⟨b, hb, e⟩
    · rw [e]; exact h.apart i k (by omega) (by omega) hi hk hne
    · cases hv : (vs i).ownBlock with
      | none => exact .inl rfl
      | some q => exact .inr (fun e2 => by rw [e] at e2; injection e2 with e2; have := (World.ownsRow.lt (h.ents i (by omega) hi) q hv).2; omega)
  refine ⟨(World.ownsRow.stored hkr (k * 2 + 1) u').1, ?_, ?_, ?_, ?_⟩
  · intro i hi0 hik
    have hi : i < f.length := by simpa using hi0
    have hai := h.at_ i hi hik
    by_cases e : i = k
    · subst e
      rw [List.getElem_set_self, List.getElem?_set_ne (by omega), List.getElem?_set_self (by omega), if_pos rfl]
      exact ⟨hai.1, rfl⟩
    · rw [List.getElem_set_ne (fun e' => e e'.symm), List.getElem?_set_ne (by omega), List.getElem?_set_ne (by omega), if_neg e]
      exact hai
  · intro i hi0 hik
    have hi : i < f.length := by simpa using hi0
    by_cases e : i = k
    · subst e
      rw [List.getElem_set_self]
      simp only [if_pos]
      exact World.ownsRow.kept ho grown_set hug
    · rw [List.getElem_set_ne (fun e' => e e'.symm)]
      simp only [if_neg e]
      exact World.ownsRow.kept (World.ownsRow.kept (h.ents i hi hik) hg (h.apart i k hi (by omega) hik hk e)) grown_set (h.aside i hi hik)
  · intro i j hi hj hik hjk hne
    rw [List.length_set] at hi hj
    by_cases e : i = k
    · subst e
      have e2 : ¬ j = i := fun e => hne e.symm
      simp only [if_pos, if_neg e2]
      exact off_flip (hnew j hjk e2)
    · by_cases e2 : j = k
      · subst e2
        simp only [if_pos, if_neg e]
        exact hnew i hik e
      · simp only [if_neg e, if_neg e2]
        exact h.apart i j hi hj hik hjk hne
  · intro i hi hik
    rw [List.length_set] at hi
    by_cases e : i = k
    · subst e; simp only [if_pos]; exact hug
    · simp only [if_neg e]; exact h.aside i hi hik
/-- A chain without versions put into a row. -/
theorem PartCh.ins {w w' : World} {base n : Nat} {v v' : Value} {f : List Chn} {vs : Nat → Value} {xs : List Value} (h : PartCh w base v n f n vs xs) (hn : f.length = n) {k : Nat} (hk : k ≤ n) {id : Int}
    (hr : w'.ownsRow base 94 2 v' (n + 1) (xs.take (k * 2) ++ [.int .i64 id, .slice none 0 0] ++ xs.drop (k * 2))) (hg : w.grownBy w' v.ownBlock) (hat : v'.ownBlock = v.ownBlock ∨ ∃ b, w.heap.size ≤ b ∧ v'.ownBlock = some b) :
    PartCh w' base v' (n + 1) (f.take k ++ ⟨id, []⟩ :: f.drop k) (n + 1) (fun i => if i < k then vs i else if i = k then .slice none 0 0 else vs (i - 1)) (xs.take (k * 2) ++ [.int .i64 id, .slice none 0 0] ++ xs.drop (k * 2)) := by
  have hl : xs.length = n * 2 := h.row.1
  have htl : (xs.take (k * 2)).length = k * 2 := by rw [List.length_take]; omega
  have hfl : (f.take k).length = k := by rw [List.length_take]; omega
  have hside : ∀ i, i < n → ((vs i).ownBlock = none ∨ (vs i).ownBlock ≠ v'.ownBlock) := by
    intro i hi
    rcases hat with e | ⟨b, hb, e⟩
    · rw [e]; exact h.aside i (by omega) hi
    · cases hv : (vs i).ownBlock with
      | none => exact .inl rfl
      | some q => exact .inr (fun e2 => by rw [e] at e2; injection e2 with e2; have := (World.ownsRow.lt (h.ents i (by omega) hi) q hv).2; omega)
  have hget : ∀ i (hi : i < (f.take k ++ ⟨id, []⟩ :: f.drop k).length), (f.take k ++ ⟨id, []⟩ :: f.drop k)[i]? = (if i < k then f[i]? else if i = k then some ⟨id, []⟩ else f[i - 1]?) := by
    intro i hi
    by_cases h1 : i < k
    · rw [if_pos h1, List.getElem?_append_left (by omega), List.getElem?_take, if_pos h1]
    · rw [if_neg h1, List.getElem?_append_right (by omega), hfl]
      by_cases h2 : i = k
      · subst h2; rw [if_pos rfl, Nat.sub_self]; rfl
      · rw [if_neg h2, show i - k = (i - k - 1) + 1 by omega, List.getElem?_cons_succ, List.getElem?_drop]
        congr 1; omega
  have hlen : (f.take k ++ ⟨id, []⟩ :: f.drop k).length = n + 1 := by rw [List.length_append, hfl, List.length_cons, List.length_drop]; omega
  have hg1 : ∀ i (hi : i < (f.take k ++ ⟨id, []⟩ :: f.drop k).length), i < k → ∃ h2 : i < f.length, (f.take k ++ ⟨id, []⟩ :: f.drop k)[i] = f[i] := by
    intro i hi h1
    have e := hget i hi
    rw [List.getElem?_eq_getElem hi, if_pos h1, List.getElem?_eq_getElem (show i < f.length by omega)] at e
    exact ⟨by omega, Option.some.inj e⟩
  have hg2 : ∀ i (hi : i < (f.take k ++ ⟨id, []⟩ :: f.drop k).length), i = k → (f.take k ++ ⟨id, []⟩ :: f.drop k)[i] = ⟨id, []⟩ := by
    intro i hi h1
    have e := hget i hi
    rw [List.getElem?_eq_getElem hi, if_neg (by omega), if_pos h1] at e
    exact Option.some.inj e
  have hg3 : ∀ i (hi : i < (f.take k ++ ⟨id, []⟩ :: f.drop k).length), ¬ i < k → ¬ i = k → ∃ h2 : i - 1 < f.length, (f.take k ++ ⟨id, []⟩ :: f.drop k)[i] = f[i - 1] := by
    intro i hi h1 h2
    have e := hget i hi
    rw [List.getElem?_eq_getElem hi, if_neg h1, if_neg h2, List.getElem?_eq_getElem (show i - 1 < f.length by omega)] at e
    exact ⟨by omega, Option.some.inj e⟩
  refine ⟨hr, ?_, ?_, ?_, ?_⟩
  · intro i hi hik
    by_cases h1 : i < k
    · obtain ⟨h2, e⟩ := hg1 i hi h1
      rw [e, if_pos h1, List.append_assoc, List.getElem?_append_left (by omega), List.getElem?_append_left (by omega), List.getElem?_take, List.getElem?_take, if_pos (by omega), if_pos (by omega)]
      exact h.at_ i h2 (by omega)
    · by_cases h2 : i = k
      · rw [hg2 i hi h2, if_neg h1, if_pos h2, List.append_assoc, h2]
        refine ⟨?_, ?_⟩
        · rw [List.getElem?_append_right (by omega), htl, Nat.sub_self]; rfl
        · rw [List.getElem?_append_right (by omega), htl, show k * 2 + 1 - k * 2 = 1 by omega]; rfl
      · obtain ⟨h3, e⟩ := hg3 i hi h1 h2
        have hll : (xs.take (k * 2) ++ [Value.int .i64 id, Value.slice none 0 0]).length = k * 2 + 2 := by rw [List.length_append, htl]; rfl
        rw [e, if_neg h1, if_neg h2, List.getElem?_append_right (by omega), List.getElem?_append_right (by omega), hll, List.getElem?_drop, List.getElem?_drop, show k * 2 + (i * 2 - (k * 2 + 2)) = (i - 1) * 2 by omega, show k * 2 + (i * 2 + 1 - (k * 2 + 2)) = (i - 1) * 2 + 1 by omega]
        exact h.at_ (i - 1) h3 (by omega)
  · intro i hi hik
    by_cases h1 : i < k
    · obtain ⟨h2, e⟩ := hg1 i hi h1
      rw [e]; simp only [if_pos h1]
      exact World.ownsRow.kept (h.ents i h2 (by omega)) hg (h.aside i h2 (by omega))
    · by_cases h2 : i = k
      · rw [hg2 i hi h2]; simp only [if_neg h1, if_pos h2]; exact ⟨rfl, .inl ⟨rfl, rfl⟩⟩
      · obtain ⟨h3, e⟩ := hg3 i hi h1 h2
        rw [e]; simp only [if_neg h1, if_neg h2]
        exact World.ownsRow.kept (h.ents (i - 1) h3 (by omega)) hg (h.aside (i - 1) h3 (by omega))
  · intro i j hi hj hik hjk hne
    by_cases h1 : i < k
    · simp only [if_pos h1]
      by_cases h2 : j < k
      · simp only [if_pos h2]; exact h.apart i j (by omega) (by omega) (by omega) (by omega) hne
      · by_cases h3 : j = k
        · simp only [if_neg h2, if_pos h3]; exact off_flip (.inl rfl)
        · simp only [if_neg h2, if_neg h3]; exact h.apart i (j - 1) (by omega) (by omega) (by omega) (by omega) (by omega)
    · by_cases h1' : i = k
      · simp only [if_neg h1, if_pos h1']; exact .inl rfl
      · simp only [if_neg h1, if_neg h1']
        by_cases h2 : j < k
        · simp only [if_pos h2]; exact h.apart (i - 1) j (by omega) (by omega) (by omega) (by omega) (by omega)
        · by_cases h3 : j = k
          · simp only [if_neg h2, if_pos h3]; exact off_flip (.inl rfl)
          · simp only [if_neg h2, if_neg h3]; exact h.apart (i - 1) (j - 1) (by omega) (by omega) (by omega) (by omega) (by omega)
  · intro i hi hik
    by_cases h1 : i < k
    · simp only [if_pos h1]; exact hside i (by omega)
    · by_cases h2 : i = k
      · simp only [if_neg h1, if_pos h2]; exact .inl rfl
      · simp only [if_neg h1, if_neg h2]; exact hside (i - 1) (by omega)
theorem PartCh.one {w : World} {base n : Nat} {v : Value} {f : List Chn} {vs : Nat → Value} {xs : List Value} (h : PartCh w base v n f n vs xs) (hn : f.length = n) : ∀ u ∈ xs, u.oneCell' = true := by
  intro u hu
  obtain ⟨j, hj, rfl⟩ := List.getElem_of_mem hu
  have hl : xs.length = n * 2 := h.row.1
  obtain ⟨a0, a1⟩ := h.at_ (j / 2) (by omega) (by omega)
  rcases Nat.mod_two_eq_zero_or_one j with e | e
  · rw [show j / 2 * 2 = j by omega, List.getElem?_eq_getElem hj] at a0
    rw [Option.some.inj a0]; rfl
  · rw [show j / 2 * 2 + 1 = j by omega, List.getElem?_eq_getElem hj] at a1
    rw [Option.some.inj a1]
    rcases (h.ents (j / 2) (by omega) (by omega)).2 with ⟨e, _⟩ | ⟨g, cap, cur, e, _⟩
    · rw [e]; rfl
    · rw [e]; rfl

end Go.Proofs.YtkafanjfjplakaaGreatDoor.Co
