/- What the program's cutting of bodies into items and fields answers where the body is a right one. -/
import Derived.Test.YtbplmgmajmomcaaGreatDoorOKD
import Derived.Lib.Small
import Derived.Lib.Bytealg
import Derived.Test.YtbplmgmajmomcaaGreatDoorOKB
namespace Go.Proofs.YtbplmgmajmomcaaGreatDoor
open Go.RowKit
set_option linter.unusedVariables false

set_option maxRecDepth 4000 in
set_option maxHeartbeats 1000000 in
theorem fieldsIn_any (body : ByteArray) (l : List Fld) (w : World) (hs : body.size ≤ 1048576) (hi : fields body = some l) :
    Calls Tryz.prog 269 #[.string body] w fun e w' => (∃ v, e = .returned v ∧ w'.ownsRow w.heap.size 295 4 v l.length (flatF l) ∧ (l = [] → v = .slice none 0 0) ∧ (l ≠ [] → v ≠ .slice none 0 0)) ∧ Below w.heap.size w w' := by
  obtain ⟨i0, hi0, hz0, hz1, hz2⟩ := info_parts infoF
  have HI : Hid _ := hi
  clear hi
  go_enter Tryz.func269, Tryz.ntmps269
  go_wp2_with fail
  go_loopw [0, 3] (fun u v wr => ∃ (b : ByteArray) (l1 l2 : List Fld), u = .string b ∧ l1.length + b.size ≤ body.size ∧ fields b = some l2 ∧ l = l1 ++ l2 ∧ wr.ownsRow w.heap.size 295 4 v l1.length (flatF l1) ∧ (l1 = [] → v = .slice none 0 0) ∧ (l1 ≠ [] → v ≠ .slice none 0 0) ∧ Below w.heap.size w wr) (fun u _ _ => strSize u)
  case atStart => exact ⟨body, [], l, rfl, by simp, HI.out, rfl, World.ownsRow_nil _ _ _ _, fun _ => rfl, fun h => absurd rfl h, Below.refl _ _⟩
  case round =>
    obtain ⟨b, l1, l2, rfl, hb, h2, hl, hown, hn0, hn1, hbel⟩ := hrel
    have H2 : Hid _ := h2
    have HL : Hid _ := hl
    have HN0 : Hid _ := hn0
    have HN1 : Hid _ := hn1
    have hsz0 := hbel.size
    clear h2 hl hn0 hn1
    by_cases hz : b.size = 0
    · obtain rfl := empty_of b hz
      go_wp2_with fail
      go_ret
      have e2 : l2 = [] := by have := H2.out; rw [fields_nil hz] at this; injection this with this; exact this.symm
      have e1 : l = l1 := by rw [HL.out, e2]; simp
      subst e1
      exact ⟨⟨u3, rfl, hown, HN0.out, HN1.out⟩, hbel⟩
    · have hne := ne_of b (by omega)
      have hbm : b.size ≤ maxLen := by unfold maxLen; omega
      cases hc : cutF b with
      | none => exact absurd H2.out (by rw [fields_none hz hc]; simp)
      | some p =>
        obtain ⟨v, r⟩ := p
        have HC : Hid _ := hc
        have hsz := cutF_size hc
        obtain ⟨l3, h3, e3⟩ : ∃ l3, fields r = some l3 ∧ l2 = v :: l3 := by
          have := H2.out
          rw [fields_cons hc] at this
          cases hr : fields r with
          | none => rw [hr] at this; cases this
          | some l3 => rw [hr] at this; injection this with this; exact ⟨l3, rfl, this.symm⟩
        have H3 : Hid _ := h3
        have E3 : Hid _ := e3
        clear hc h3 e3
        go_wp2_with (first | (go_at_call 265; refine (cutField_some _ r v _ hbm HC.out).mono ?_; rintro e w1 ⟨rfl, hb1⟩; have hown1 := owns_below hown hb1) | (at_builtin; refine wpList_append_own _ rfl (.tmp 15) (.tmp 17) 291 rfl w.heap.size 295 i0 (.agg #[.string em, .int .i64 0, .int .i64 0, .string em]) 4 48 Tryz.underlying291 hi0 hz0 hz1 hz2 rfl (by decide) _ _ _ rfl ((hown1.alloc _).alloc _) ⟨w1.heap.size + 1, 0, none⟩ 1 1 (rowF v) rfl rfl ?c1 ?c2 ?c3 ?c4 ?c5 ?_))
        case c1 =>
          intro j u hj
          match j, hj with
          | 0, hj => simp [rowF] at hj; subst hj; simp [Addr.add, go_sem]
          | 1, hj => simp [rowF] at hj; subst hj; simp [Addr.add, go_sem]
          | 2, hj => simp [rowF] at hj; subst hj; simp [Addr.add, go_sem]
          | 3, hj => simp [rowF] at hj; subst hj; simp [Addr.add, go_sem]
          | j + 4, hj => simp [rowF] at hj
        case c2 => intro u hu; simp [rowF] at hu; rcases hu with rfl | rfl | rfl | rfl <;> rfl
        case c3 => unfold maxLen; omega
        case c4 => omega
        case c5 => have := hb1.size; simp; omega
        intro v' w2 hown2 hgrow hnv
        have HV : Hid _ := hnv
        clear hnv
        have hz1 := hb1.size
        have hb0 : Below w.heap.size w w1 := hbel.trans (hb1.mono hbel.size)
        have hbl := owns_block hown
        have hb2 : Below w.heap.size w w2 := Below.grown ((hb0.alloc (by omega) _).alloc (by simp; omega) _) hgrow (by simp; omega) hbl
        clear hgrow hown1 hb1 hb0 hbl hown hbel
        go_wp2_with fail
        go_roundw
        case rel => exact ⟨r, l1 ++ [v], l3, rfl, by simp; omega, H3.out, by rw [HL.out, E3.out]; simp, by rw [flatF_snoc, List.length_append]; exact hown2, fun h => by simp at h, fun _ => HV.out, hb2⟩
        case measure => simp [strSize_eq]; omega
theorem fieldsIn_nil (body : ByteArray) (w : World) (hs : body.size ≤ 1048576) (hi : fields body = some []) :
    Calls Tryz.prog 269 #[.string body] w fun e w' => e = .returned (.slice none 0 0) ∧ Below w.heap.size w w' :=
  (fieldsIn_any body [] w hs hi).mono fun e w' ⟨⟨v, he, _, h, _⟩, hb⟩ => ⟨by rw [he, h rfl], hb⟩
theorem fieldsIn_cons (body : ByteArray) (l : List Fld) (w : World) (hs : body.size ≤ 1048576) (hi : fields body = some l) (hl : l ≠ []) :
    Calls Tryz.prog 269 #[.string body] w fun e w' => (∃ g cap, e = .returned (.slice (some ⟨g, 0, none⟩) l.length cap) ∧ w'.ownsRow w.heap.size 295 4 (.slice (some ⟨g, 0, none⟩) l.length cap) l.length (flatF l)) ∧ Below w.heap.size w w' :=
  (fieldsIn_any body l w hs hi).mono fun e w' ⟨⟨v, he, ho, _, h⟩, hb⟩ => by
    obtain ⟨g, cap, hv⟩ := owns_shape ho (h hl)
    exact ⟨⟨g, cap, by rw [he, hv], by rw [← hv]; exact ho⟩, hb⟩

end Go.Proofs.YtbplmgmajmomcaaGreatDoor

/- How deep a value is, said plainly. -/
namespace Go.Proofs.YtbplmgmajmomcaaGreatDoor
open Go.RowKit
set_option linter.unusedVariables false

def dmax (p : Val → Int) (l : List Val) : Int := l.foldl (fun n v => max n (p v)) 0
theorem dmax_snoc (p : Val → Int) (l : List Val) (v : Val) : dmax p (l ++ [v]) = max (dmax p l) (p v) := by unfold dmax; simp
theorem dmax_take (p : Val → Int) (l : List Val) (k : Nat) (h : k < l.length) : dmax p (l.take (k + 1)) = max (dmax p (l.take k)) (p l[k]) := by
  rw [List.take_succ_eq_append_getElem h, dmax_snoc]
def dF (p : Val → Int) (l : List Fld) : Int := dmax p (l.map Fld.v)
theorem dmax_takeF (p : Val → Int) (l : List Fld) (k : Nat) (h : k < l.length) : dF p (l.take (k + 1)) = max (dF p (l.take k)) (p l[k].v) := by
  unfold dF
  rw [List.take_succ_eq_append_getElem h, List.map_append]; exact dmax_snoc _ _ _
theorem dmax_bd (p : Val → Int) (B : Int) (hB : 0 ≤ B) (hp : ∀ v, 0 ≤ p v ∧ p v ≤ B) (l : List Val) : 0 ≤ dmax p l ∧ dmax p l ≤ B := by
  suffices h : ∀ (l : List Val) (n : Int), 0 ≤ n → n ≤ B → 0 ≤ l.foldl (fun n v => max n (p v)) n ∧ l.foldl (fun n v => max n (p v)) n ≤ B by
    exact h l 0 (by omega) hB
  intro l
  induction l with
  | nil => intro n h0 h1; exact ⟨h0, h1⟩
  | cons v l ih => intro n h0 h1; have := hp v; exact ih (max n (p v)) (by omega) (by omega)
theorem dF_bd (p : Val → Int) (B : Int) (hB : 0 ≤ B) (hp : ∀ v, 0 ≤ p v ∧ p v ≤ B) (l : List Fld) : 0 ≤ dF p l ∧ dF p l ≤ B := dmax_bd p B hB hp _
def depthV : Nat → Val → Int
  | 0, _ => 0
  | d + 1, v =>
    if v.k = 4 then dmax (depthV d) ((items v.t).getD []) + 1
    else if v.k = 5 then dmax (depthV d) (((fields v.t).getD []).map Fld.v) + 1
    else 0
theorem depthV_bd : ∀ (d : Nat) (v : Val), 0 ≤ depthV d v ∧ depthV d v ≤ d
  | 0, v => by simp [depthV]
  | d + 1, v => by
    have h := dmax_bd (depthV d) d (by omega) (depthV_bd d)
    unfold depthV
    split
    · have := h ((items v.t).getD []); omega
    · split
      · have := h (((fields v.t).getD []).map Fld.v); omega
      · omega
theorem depthV_plain (d : Nat) (v : Val) (h4 : v.k ≠ 4) (h5 : v.k ≠ 5) : depthV d v = 0 := by
  cases d with
  | zero => rfl
  | succ d => unfold depthV; rw [if_neg h4, if_neg h5]
theorem depthV_list (d : Nat) (v : Val) (l : List Val) (h : v.k = 4) (hi : items v.t = some l) : depthV (d + 1) v = dmax (depthV d) l + 1 := by
  rw [depthV, if_pos h, hi]; rfl
theorem depthV_doc (d : Nat) (v : Val) (l : List Fld) (h : v.k = 5) (hi : fields v.t = some l) : depthV (d + 1) v = dF (depthV d) l + 1 := by
  rw [depthV, if_neg (by omega), if_pos h, hi]; rfl

theorem fits_items {d : Nat} {v : Val} (h : v.k = 4) (hf : fits d v = true) : ∃ e l, d = e + 1 ∧ items v.t = some l ∧ v.n = 0 ∧ v.t.size ≤ 300 ∧ ∀ u ∈ l, fits e u = true ∧ u.t.size ≤ v.t.size := by
  cases d with
  | zero => rw [show fits 0 v = base v from rfl, base_holder v (.inl h)] at hf; cases hf
  | succ e =>
    rw [fits_list e v h] at hf
    rw [Bool.and_eq_true, decide_eq_true_eq] at hf
    cases hi : items v.t with
    | none => rw [hi] at hf; cases hf.2
    | some l =>
      rw [hi] at hf
      refine ⟨e, l, rfl, rfl, hf.1.1, hf.1.2, fun u hu => ⟨?_, (items_len _ _ _ (Nat.le_refl _) hi).2 u hu⟩⟩
      have := hf.2
      simp only [itemsAll, List.all_eq_true] at this
      exact this u hu
theorem rise_all (p : Val → Bool) : ∀ (l : List Fld) (m : ByteArray), riseAll p m l = true → ∀ f ∈ l, shortB f.name = true ∧ p f.v = true
  | [], _, _, f, hf => by cases hf
  | g :: l, m, h, f, hf => by
    simp only [riseAll, Bool.and_eq_true] at h
    rcases List.mem_cons.mp hf with rfl | hf
    · exact ⟨h.1.1.1, h.1.2⟩
    · exact rise_all p l _ h.2 f hf
theorem fits_fields {d : Nat} {v : Val} (h : v.k = 5) (hf : fits d v = true) : ∃ e l, d = e + 1 ∧ fields v.t = some l ∧ v.n = 0 ∧ v.t.size ≤ 300 ∧ riseAll (fits e) em l = true ∧ ∀ f ∈ l, fits e f.v = true ∧ f.v.t.size ≤ v.t.size ∧ f.name.size ≤ v.t.size := by
  cases d with
  | zero => rw [show fits 0 v = base v from rfl, base_holder v (.inr h)] at hf; cases hf
  | succ e =>
    rw [fits_doc e v h] at hf
    rw [Bool.and_eq_true, decide_eq_true_eq] at hf
    cases hi : fields v.t with
    | none => rw [hi] at hf; cases hf.2
    | some l =>
      rw [hi] at hf
      have hr : riseAll (fits e) em l = true := hf.2
      refine ⟨e, l, rfl, rfl, hf.1.1, hf.1.2, hr, fun f hf' => ?_⟩
      have := (fields_len _ _ _ (Nat.le_refl _) hi).2 f hf'
      exact ⟨(rise_all _ _ _ hr f hf').2, this.2, this.1⟩

end Go.Proofs.YtbplmgmajmomcaaGreatDoor

/- The order of values, said plainly; values that are neither ahead nor behind are alike. Nothing of the program is used here. -/
namespace Go.Proofs.YtbplmgmajmomcaaGreatDoor
open Go.RowKit
set_option linter.unusedVariables false

def cB (a b : ByteArray) : Int := Lib.compareBytes a.data.toList b.data.toList
abbrev cI (x y : Int) : Int := Lib.compareInt x y
def lexG {α : Type} (p : α → α → Int) : List α → List α → Int
  | [], [] => 0
  | [], _ :: _ => -1
  | _ :: _, [] => 1
  | x :: xs, y :: ys => if p x y = 0 then lexG p xs ys else p x y
def cF (p : Val → Val → Int) (f g : Fld) : Int := if cB f.name g.name = 0 then p f.v g.v else cB f.name g.name
def ordV : Nat → Val → Val → Int
  | 0, a, b => if a.k ≠ b.k then cI a.k b.k else if a.n ≠ b.n then cI a.n b.n else cB a.t b.t
  | d + 1, a, b => if a.k ≠ b.k then cI a.k b.k else if a.n ≠ b.n then cI a.n b.n else
    if a.k = 4 then lexG (ordV d) ((items a.t).getD []) ((items b.t).getD [])
    else if a.k = 5 then lexG (cF (ordV d)) ((fields a.t).getD []) ((fields b.t).getD [])
    else cB a.t b.t

theorem cI_zero (x y : Int) : cI x y = 0 ↔ x = y := by unfold cI Lib.compareInt; constructor <;> intro h <;> (repeat' split at *) <;> omega
theorem cI_range (x y : Int) : -1 ≤ cI x y ∧ cI x y ≤ 1 := by unfold cI Lib.compareInt; (repeat' split) <;> omega
theorem cI_ne (x y : Int) (h : x ≠ y) : cI x y = if y < x then 1 else -1 := by unfold cI Lib.compareInt; (repeat' split) <;> omega
theorem bytes_zero : ∀ a b : List UInt8, Lib.compareBytes a b = 0 ↔ a = b
  | [], [] => by simp [Lib.compareBytes]
  | [], _ :: _ => by simp [Lib.compareBytes]
  | _ :: _, [] => by simp [Lib.compareBytes]
  | a :: l, b :: m => by
    have ih := bytes_zero l m
    unfold Lib.compareBytes
    by_cases h1 : a < b
    · rw [if_pos h1]
      constructor
      · intro h; cases h
      · intro h; injection h with h _; subst h; simp at h1
    · rw [if_neg h1]
      by_cases h2 : b < a
      · rw [if_pos h2]
        constructor
        · intro h; cases h
        · intro h; injection h with h _; subst h; simp at h2
      · rw [if_neg h2, ih]
        have : a = b := by apply UInt8.toNat_inj.mp; simp [UInt8.lt_iff_toNat_lt] at *; omega
        subst this
        simp
theorem bytes_range : ∀ a b : List UInt8, -1 ≤ Lib.compareBytes a b ∧ Lib.compareBytes a b ≤ 1
  | [], [] => by simp [Lib.compareBytes]
  | [], _ :: _ => by simp [Lib.compareBytes]
  | _ :: _, [] => by simp [Lib.compareBytes]
  | a :: l, b :: m => by
    have ih := bytes_range l m
    unfold Lib.compareBytes
    (repeat' split) <;> first | omega | exact ih
theorem bytes_less : ∀ a b : List UInt8, a ≠ b → Lib.compareBytes a b = if Op.bytesLess b a = true then 1 else -1
  | [], [], h => absurd rfl h
  | [], _ :: _, _ => by simp [Lib.compareBytes, Op.bytesLess]
  | _ :: _, [], _ => by simp [Lib.compareBytes, Op.bytesLess]
  | a :: l, b :: m, h => by
    unfold Lib.compareBytes
    by_cases h1 : a < b
    · have h2 : ¬ b < a := by simp [UInt8.lt_iff_toNat_lt] at *; omega
      have h3 : ¬ b = a := by intro e; subst e; simp at h1
      rw [if_pos h1]; simp [Op.bytesLess, h2, h3]
    · rw [if_neg h1]
      by_cases h2 : b < a
      · rw [if_pos h2]; simp [Op.bytesLess, h2]
      · have e : a = b := by apply UInt8.toNat_inj.mp; simp [UInt8.lt_iff_toNat_lt] at *; omega
        subst e
        rw [if_neg h2, bytes_less l m (fun e => h (by rw [e]))]
        simp [Op.bytesLess]
theorem ba_ext {a b : ByteArray} (h : a.data.toList = b.data.toList) : a = b := by apply ByteArray.ext; apply Array.ext'; exact h
theorem cB_zero (a b : ByteArray) : cB a b = 0 ↔ a = b := by
  unfold cB; rw [bytes_zero]
  exact ⟨ba_ext, fun h => by rw [h]⟩
theorem cB_range (a b : ByteArray) : -1 ≤ cB a b ∧ cB a b ≤ 1 := bytes_range _ _
theorem cB_ne (a b : ByteArray) (h : a ≠ b) : cB a b = if ltB b a = true then 1 else -1 := by
  unfold cB ltB
  rw [ByteArray.toList_eq, ByteArray.toList_eq]
  exact bytes_less _ _ (fun e => h (ba_ext e))

theorem lexG_range {α : Type} (p : α → α → Int) (hp : ∀ x y, -1 ≤ p x y ∧ p x y ≤ 1) : ∀ xs ys, -1 ≤ lexG p xs ys ∧ lexG p xs ys ≤ 1
  | [], [] => by simp [lexG]
  | [], _ :: _ => by simp [lexG]
  | _ :: _, [] => by simp [lexG]
  | x :: xs, y :: ys => by
    have ih := lexG_range p hp xs ys
    unfold lexG
    split
    · exact ih
    · exact hp x y
theorem lexG_refl {α : Type} (p : α → α → Int) (hp : ∀ x, p x x = 0) : ∀ xs, lexG p xs xs = 0
  | [] => rfl
  | x :: xs => by unfold lexG; rw [if_pos (hp x)]; exact lexG_refl p hp xs
theorem lexG_zero {α : Type} (p : α → α → Int) : ∀ xs ys : List α, (∀ x ∈ xs, ∀ y ∈ ys, p x y = 0 → x = y) → lexG p xs ys = 0 → xs = ys
  | [], [], _, _ => rfl
  | [], _ :: _, _, h => by simp [lexG] at h
  | _ :: _, [], _, h => by simp [lexG] at h
  | x :: xs, y :: ys, hp, h => by
    unfold lexG at h
    split at h
    · rename_i e
      rw [hp x (by simp) y (by simp) e, lexG_zero p xs ys (fun a ha b hb => hp a (by simp [ha]) b (by simp [hb])) h]
    · rename_i e; exact absurd h e
theorem lexG_step {α : Type} (p : α → α → Int) (xs ys : List α) (k : Nat) (h1 : k < xs.length) (h2 : k < ys.length) : lexG p (xs.drop k) (ys.drop k) = if p xs[k] ys[k] = 0 then lexG p (xs.drop (k + 1)) (ys.drop (k + 1)) else p xs[k] ys[k] := by
  rw [List.drop_eq_getElem_cons h1, List.drop_eq_getElem_cons h2, lexG]
theorem lexG_end1 {α : Type} (p : α → α → Int) (xs ys : List α) (k : Nat) (h1 : xs.length ≤ k) : lexG p (xs.drop k) (ys.drop k) = if k < ys.length then -1 else 0 := by
  rw [List.drop_eq_nil_of_le h1]
  by_cases h : k < ys.length
  · rw [if_pos h, List.drop_eq_getElem_cons h]; rfl
  · rw [if_neg h, List.drop_eq_nil_of_le (by omega)]; rfl
theorem lexG_end2 {α : Type} (p : α → α → Int) (xs ys : List α) (k : Nat) (h1 : k < xs.length) (h2 : ys.length ≤ k) : lexG p (xs.drop k) (ys.drop k) = 1 := by
  rw [List.drop_eq_nil_of_le h2, List.drop_eq_getElem_cons h1]; rfl

theorem ordV_range : ∀ (d : Nat) (a b : Val), -1 ≤ ordV d a b ∧ ordV d a b ≤ 1
  | 0, a, b => by
    unfold ordV
    have h1 := cI_range a.k b.k
    have h2 := cI_range a.n b.n
    have h3 := cB_range a.t b.t
    (repeat' split) <;> assumption
  | d + 1, a, b => by
    have ih := ordV_range d
    have hf : ∀ x y, -1 ≤ cF (ordV d) x y ∧ cF (ordV d) x y ≤ 1 := fun x y => by
      unfold cF; split
      · exact ih _ _
      · exact cB_range _ _
    unfold ordV
    have h1 := cI_range a.k b.k
    have h2 := cI_range a.n b.n
    have h3 := cB_range a.t b.t
    have h4 := lexG_range (ordV d) ih ((items a.t).getD []) ((items b.t).getD [])
    have h5 := lexG_range (cF (ordV d)) hf ((fields a.t).getD []) ((fields b.t).getD [])
    (repeat' split) <;> assumption
theorem ordV_refl : ∀ (d : Nat) (a : Val), ordV d a a = 0
  | 0, a => by unfold ordV; simp [(cB_zero a.t a.t).mpr rfl]
  | d + 1, a => by
    have ih := ordV_refl d
    have hf : ∀ x, cF (ordV d) x x = 0 := fun x => by unfold cF; rw [if_pos ((cB_zero _ _).mpr rfl)]; exact ih _
    unfold ordV
    simp [(cB_zero a.t a.t).mpr rfl, lexG_refl _ ih, lexG_refl _ hf]

theorem beR : ∀ a b : List UInt8, a.length = b.length → beL a.reverse = beL b.reverse → a = b
  | [], [], _, _ => rfl
  | [], _ :: _, h, _ => by simp at h
  | _ :: _, [], h, _ => by simp at h
  | x :: a, y :: b, h, e => by
    rw [List.reverse_cons, List.reverse_cons, beL_snoc, beL_snoc] at e
    have h1 := x.toNat_lt
    have h2 := y.toNat_lt
    have e1 : beL a.reverse = beL b.reverse := by omega
    have e2 : x.toNat = y.toNat := by omega
    rw [UInt8.toNat_inj.mp e2, beR a b (by simpa using h) e1]
theorem be_inj (a b : List UInt8) (h : a.length = b.length) (e : beL a = beL b) : a = b := by
  have := beR a.reverse b.reverse (by simpa using h) (by simpa using e)
  simpa using this
theorem head_inj (x y : ByteArray) (n : Nat) (hx : n ≤ x.size) (hy : n ≤ y.size) (e : beT x n = beT y n) (hr : x.extract n x.size = y.extract n y.size) : x = y := by
  apply ba_ext
  have h1 : x.data.toList.take n = y.data.toList.take n := be_inj _ _ (by simp; omega) e
  have h2 : x.data.toList.drop n = y.data.toList.drop n := by
    have := congrArg (fun s : ByteArray => s.data.toList) hr
    simp only [extract_list] at this
    rwa [List.take_of_length_le (by simp), List.take_of_length_le (by simp)] at this
  rw [← List.take_append_drop n x.data.toList, h1, h2, List.take_append_drop]
theorem cutT_inj (x y : ByteArray) (n : Nat) (t r : ByteArray) (hx : cutT x n = some (t, r)) (hy : cutT y n = some (t, r)) : x = y := by
  unfold cutT at hx hy
  split at hx
  · cases hx
  · split at hx
    · cases hx
    · split at hy
      · cases hy
      · split at hy
        · cases hy
        · rename_i a1 a2 b1 b2
          simp only [Option.some.injEq, Prod.mk.injEq] at hx hy
          have s1 : beT x n = t.size := by rw [← hx.1]; simp; omega
          have s2 : beT y n = t.size := by rw [← hy.1]; simp; omega
          refine head_inj x y n (by omega) (by omega) (by omega) ?_
          have k : ∀ z : ByteArray, ¬ z.size < n + beT z n → beT z n = t.size → z.extract n (n + beT z n) = t → z.extract (n + beT z n) z.size = r → (z.extract n z.size).data.toList = t.data.toList ++ r.data.toList := by
            intro z hz hs e1 e2
            rw [← e1, ← e2]
            simp only [extract_list]
            rw [List.take_of_length_le (by simp), List.take_of_length_le (l := List.drop (n + beT z n) z.data.toList) (by simp)]
            rw [show n + beT z n - n = beT z n by omega, ← List.drop_drop, List.take_append_drop]
          exact ba_ext ((k x a2 s1 hx.1 hx.2).trans (k y b2 s2 hy.1 hy.2).symm)
theorem cutV_inj (x y : ByteArray) (v : Val) (r : ByteArray) (hx : cutV x = some (v, r)) (hy : cutV y = some (v, r)) : x = y := by
  have hk : ∀ (c : Nat) (z : ByteArray), cutR c z = some (v, r) → v.k = c := by
    intro c z h
    unfold cutR at h
    split at h
    · rename_i e; injection h with h; injection h with h _; rw [← h, e]; rfl
    · split at h
      · rename_i e; split at h
        · cases h
        · injection h with h; injection h with h _; rw [← h, e]; rfl
      · split at h
        · rename_i e; split at h
          · cases h
          · split at h
            · cases h
            · injection h with h; injection h with h _; rw [← h, e]; rfl
        · split at h
          · cases ht : cutT z 2 with
            | none => rw [ht] at h; cases h
            | some p => rw [ht] at h; injection h with h; injection h with h _; rw [← h]
          · cases h
  have hR : ∀ (c : Nat) (z z' : ByteArray), cutR c z = some (v, r) → cutR c z' = some (v, r) → z = z' := by
    intro c z z' h h'
    unfold cutR at h h'
    split at h
    · rename_i e; rw [if_pos e] at h'; injection h with h; injection h' with h'; injection h with _ h; injection h' with _ h'; rw [h, h']
    · rename_i e0; rw [if_neg e0] at h'
      split at h
      · rename_i e; rw [if_pos e] at h'
        split at h
        · cases h
        · split at h'
          · cases h'
          · injection h with h; injection h' with h'
            have q := h.trans h'.symm
            injection q with q1 q2
            injection q1 with _ q3 _
            exact head_inj z z' 1 (by omega) (by omega) (by exact_mod_cast q3) q2
      · rename_i e1; rw [if_neg e1] at h'
        split at h
        · rename_i e; rw [if_pos e] at h'
          split at h
          · cases h
          · split at h
            · cases h
            · split at h'
              · cases h'
              · split at h'
                · cases h'
                · injection h with h; injection h' with h'
                  have q := h.trans h'.symm
                  injection q with q1 q2
                  injection q1 with _ q3 _
                  exact head_inj z z' 8 (by omega) (by omega) (by omega) q2
        · rename_i e2; rw [if_neg e2] at h'
          split at h
          · rename_i e; rw [if_pos e] at h'
            cases ht : cutT z 2 with
            | none => rw [ht] at h; cases h
            | some p =>
              cases ht' : cutT z' 2 with
              | none => rw [ht'] at h'; cases h'
              | some p' =>
                rw [ht] at h; rw [ht'] at h'
                injection h with h; injection h' with h'
                have q := h.trans h'.symm
                injection q with q1 q2
                injection q1 with _ _ q3
                obtain ⟨p1, p2⟩ := p
                obtain ⟨p3, p4⟩ := p'
                simp only at q2 q3
                subst q2; subst q3
                exact cutT_inj z z' 2 _ _ ht ht'
          · cases h
  unfold cutV at hx hy
  split at hx
  · cases hx
  · split at hy
    · cases hy
    · rename_i s1 s2
      have k1 := hk _ _ hx
      have k2 := hk _ _ hy
      have hc : hd x = hd y := by omega
      rw [← hc] at hy
      have hr := hR _ _ _ hx hy
      refine head_inj x y 1 (by omega) (by omega) ?_ hr
      have b1 : ∀ z : ByteArray, ¬ z.size = 0 → beT z 1 = hd z := by
        intro z hz
        have := beT_step z 0 (by omega)
        rw [beT_zero, Nat.zero_mul] at this
        rw [show (1 : Nat) = 0 + 1 from rfl, this, head_get z (by omega)]
        omega
      rw [b1 x s1, b1 y s2, hc]
theorem items_inj : ∀ (l : List Val) (x y : ByteArray), items x = some l → items y = some l → x = y
  | [], x, y, hx, hy => by
    have h : ∀ z : ByteArray, items z = some [] → z = em := by
      intro z hz
      by_cases h0 : z.size = 0
      · exact empty_of z h0
      · cases hc : cutV z with
        | none => rw [items_none h0 hc] at hz; cases hz
        | some p =>
          obtain ⟨v, r⟩ := p
          rw [items_cons hc] at hz
          cases hr : items r with
          | none => rw [hr] at hz; cases hz
          | some q => rw [hr] at hz; cases hz
    rw [h x hx, h y hy]
  | v :: l, x, y, hx, hy => by
    have h : ∀ z : ByteArray, items z = some (v :: l) → ∃ r, cutV z = some (v, r) ∧ items r = some l := by
      intro z hz
      by_cases h0 : z.size = 0
      · rw [items_nil h0] at hz; cases hz
      · cases hc : cutV z with
        | none => rw [items_none h0 hc] at hz; cases hz
        | some p =>
          obtain ⟨v', r⟩ := p
          rw [items_cons hc] at hz
          cases hr : items r with
          | none => rw [hr] at hz; cases hz
          | some q => rw [hr] at hz; injection hz with hz; injection hz with e1 e2; subst e1; subst e2; exact ⟨r, rfl, hr⟩
    obtain ⟨r1, c1, i1⟩ := h x hx
    obtain ⟨r2, c2, i2⟩ := h y hy
    have e := items_inj l r1 r2 i1 i2
    subst e
    exact cutV_inj x y v r1 c1 c2

end Go.Proofs.YtbplmgmajmomcaaGreatDoor

/- A field by its name, said plainly; where it stands among fields that rise. Nothing of the program is used here. -/
namespace Go.Proofs.YtbplmgmajmomcaaGreatDoor
open Go.RowKit
set_option linter.unusedVariables false

theorem less_trans : ∀ x y z : List UInt8, Op.bytesLess x y = true → Op.bytesLess y z = true → Op.bytesLess x z = true
  | x, [], z, h, _ => by cases x <;> simp [Op.bytesLess] at h
  | x, b :: y, [], _, h => by simp [Op.bytesLess] at h
  | [], b :: y, c :: z, _, _ => by simp [Op.bytesLess]
  | a :: x, b :: y, c :: z, h1, h2 => by
    have ih := less_trans x y z
    simp only [Op.bytesLess] at h1 h2 ⊢
    by_cases hab : a < b
    · by_cases hbc : b < c
      · have : a < c := by simp [UInt8.lt_iff_toNat_lt] at *; omega
        simp [this]
      · have hbc2 : b = c := by
          by_cases hcb : b = c
          · exact hcb
          · simp [hbc, hcb] at h2
        subst hbc2; simp [hab]
    · have hab2 : a = b := by
        by_cases e : a = b
        · exact e
        · simp [hab, e] at h1
      subst hab2
      by_cases hbc : a < c
      · simp [hbc]
      · have hbc2 : a = c := by
          by_cases e : a = c
          · exact e
          · simp [hbc, e] at h2
        subst hbc2
        simp at h1 h2 ⊢
        exact ih h1 h2
theorem less_irrefl : ∀ x : List UInt8, Op.bytesLess x x = false
  | [] => rfl
  | a :: x => by simp [Op.bytesLess, less_irrefl x]
theorem ltB_trans {a b c : ByteArray} (h1 : ltB a b = true) (h2 : ltB b c = true) : ltB a c = true := less_trans _ _ _ h1 h2
theorem ltB_irrefl (a : ByteArray) : ltB a a = false := less_irrefl _
theorem ltB_asym {a b : ByteArray} (h : ltB a b = true) : ltB b a = false := by
  cases h2 : ltB b a
  · rfl
  · have := ltB_trans h h2; rw [ltB_irrefl] at this; cases this
theorem cB_lt (a b : ByteArray) : decide (cB a b < 0) = ltB a b := by
  by_cases h : a = b
  · subst h; rw [ltB_irrefl, (cB_zero a a).mpr rfl]; rfl
  · rw [cB_ne a b h]
    cases h2 : ltB b a
    · have := less_total b.toList a.toList
      have e : (a.toList == b.toList) = false := beq_eq_false_iff_ne.mpr (fun e => h (ba_ext (by rw [← ByteArray.toList_eq, ← ByteArray.toList_eq]; exact e)))
      unfold ltB at h2 ⊢
      rw [e, h2] at this
      simpa using this.symm
    · rw [ltB_asym h2]; rfl
theorem eqL (a b : ByteArray) : (a.toList == b.toList) = true ↔ a = b := by
  rw [beq_iff_eq]
  exact ⟨fun e => ba_ext (by rw [← ByteArray.toList_eq, ← ByteArray.toList_eq]; exact e), fun e => by rw [e]⟩
theorem eqL_false (a b : ByteArray) (h : a ≠ b) : (a.toList == b.toList) = false := by
  cases h2 : (a.toList == b.toList)
  · rfl
  · exact absurd ((eqL a b).mp h2) h

/-- The value of the field of a name. -/
def fieldV (nm : ByteArray) : List Fld → Option Val
  | [] => none
  | f :: r => if cB f.name nm = 0 then some f.v else fieldV nm r
theorem fieldV_none (nm : ByteArray) : ∀ l : List Fld, (∀ f ∈ l, f.name ≠ nm) → fieldV nm l = none
  | [], _ => rfl
  | f :: r, h => by
    rw [fieldV, if_neg (fun e => h f (by simp) ((cB_zero _ _).mp e))]
    exact fieldV_none nm r (fun g hg => h g (by simp [hg]))
theorem fieldV_at (nm : ByteArray) : ∀ (l : List Fld) (i : Nat) (hi : i < l.length), (∀ q (h : q < l.length), q < i → l[q].name ≠ nm) → l[i].name = nm → fieldV nm l = some l[i].v
  | f :: r, 0, _, _, h => by
    have h' : f.name = nm := h
    rw [fieldV, if_pos ((cB_zero _ _).mpr h')]; rfl
  | f :: r, i + 1, hi, hno, h => by
    rw [fieldV, if_neg (fun e => hno 0 (by simp) (by omega) ((cB_zero _ _).mp e))]
    exact fieldV_at nm r i (by simpa using hi) (fun q hq hlt => by have := hno (q + 1) (by simpa using hq) (by omega); simpa using this) (by simpa using h)

/-- The names of fields rise. -/
def Rise (l : List Fld) : Prop := ∀ i j (hi : i < l.length) (hj : j < l.length), i < j → ltB l[i].name l[j].name = true
theorem riseAll_first (p : Val → Bool) : ∀ (l : List Fld) (last : ByteArray), riseAll p last l = true → ∀ f ∈ l, ltB last f.name = true
  | [], _, _, f, hf => by simp at hf
  | g :: r, last, h, f, hf => by
    simp only [riseAll, Bool.and_eq_true] at h
    rcases List.mem_cons.mp hf with rfl | hf
    · exact h.1.1.2
    · exact ltB_trans h.1.1.2 (riseAll_first p r g.name h.2 f hf)
theorem rise_of (p : Val → Bool) : ∀ (l : List Fld) (last : ByteArray), riseAll p last l = true → Rise l
  | [], _, _ => fun i j hi => by simp at hi
  | g :: r, last, h => by
    simp only [riseAll, Bool.and_eq_true] at h
    have ih := rise_of p r g.name h.2
    intro i j hi hj hij
    match i, j, hi, hj, hij with
    | 0, j + 1, _, hj, _ => exact riseAll_first p r g.name h.2 _ (List.getElem_mem _)
    | i + 1, j + 1, hi, hj, hij => exact ih i j (by simpa using hi) (by simpa using hj) (by omega)
theorem riseAll_all (p : Val → Bool) : ∀ (l : List Fld) (last : ByteArray), riseAll p last l = true → ∀ f ∈ l, p f.v = true ∧ shortB f.name = true
  | [], _, _, f, hf => by simp at hf
  | g :: r, last, h, f, hf => by
    simp only [riseAll, Bool.and_eq_true] at h
    rcases List.mem_cons.mp hf with rfl | hf
    · exact ⟨h.1.2, h.1.1.1⟩
    · exact riseAll_all p r g.name h.2 f hf

/-- Where a name stands, or would stand, among fields that rise, and whether it is there. -/
structure Place (l : List Fld) (nm : ByteArray) (i : Nat) (b : Bool) : Prop where
  le : i ≤ l.length
  lo : ∀ q (h : q < l.length), q < i → ltB l[q].name nm = true
  hi : ∀ q (h : q < l.length), i ≤ q → ltB l[q].name nm = false
  there : b = true ↔ ∃ h : i < l.length, l[i].name = nm
theorem Place.some {l : List Fld} {nm : ByteArray} {i : Nat} (h : Place l nm i true) : ∃ hi : i < l.length, l[i].name = nm ∧ fieldV nm l = some l[i].v := by
  obtain ⟨hi, he⟩ := h.there.mp rfl
  exact ⟨hi, he, fieldV_at nm l i hi (fun q hq hlt e => by have := h.lo q hq hlt; rw [e, ltB_irrefl] at this; cases this) he⟩
theorem Place.none {l : List Fld} {nm : ByteArray} {i : Nat} (hr : Rise l) (h : Place l nm i false) : fieldV nm l = none :=
  fieldV_none nm l (fun f hf e => by
    obtain ⟨q, hq, rfl⟩ := List.getElem_of_mem hf
    rcases Nat.lt_or_ge q i with hlt | hge
    · have := h.lo q hq hlt; rw [e, ltB_irrefl] at this; cases this
    · rcases Nat.lt_or_ge i q with hlt | hge2
      · have h1 := hr i q (by omega) hq hlt
        rw [e] at h1
        have := h.hi i (by omega) (Nat.le_refl _)
        rw [this] at h1; cases h1
      · obtain rfl : q = i := by omega
        have := h.there.mpr ⟨hq, e⟩; cases this)

end Go.Proofs.YtbplmgmajmomcaaGreatDoor

/- What a path comes to in a value, said plainly. Nothing of the program is used here. -/
namespace Go.Proofs.YtbplmgmajmomcaaGreatDoor
open Go.RowKit
set_option linter.unusedVariables false

def itms (v : Val) : List Val := (items v.t).getD []
def flds (v : Val) : List Fld := (fields v.t).getD []
/-- What comes behind a name of a document. -/
def docP (r : Val → List Val) (nm : ByteArray) (v : Val) : List Val :=
  match fieldV nm (flds v) with
  | none => []
  | some x => r x
/-- All values that names come to. -/
def getP : List ByteArray → Val → List Val
  | [], v => v :: (if v.k = 4 then itms v else [])
  | nm :: ws, v => if v.k = 5 then docP (getP ws) nm v else if v.k = 4 then (itms v).flatMap (fun it => if it.k = 5 then docP (getP ws) nm it else []) else []
theorem docP_none (r : Val → List Val) (nm : ByteArray) (v : Val) (h : fieldV nm (flds v) = none) : docP r nm v = [] := by unfold docP; rw [h]
theorem docP_some (r : Val → List Val) (nm : ByteArray) (v x : Val) (h : fieldV nm (flds v) = some x) : docP r nm v = r x := by unfold docP; rw [h]
theorem getP_end (v : Val) : getP [] v = v :: (if v.k = 4 then itms v else []) := rfl
theorem getP_doc (nm : ByteArray) (ws : List ByteArray) (v : Val) (h : v.k = 5) : getP (nm :: ws) v = docP (getP ws) nm v := by rw [getP, if_pos h]
theorem getP_list (nm : ByteArray) (ws : List ByteArray) (v : Val) (h : v.k = 4) : getP (nm :: ws) v = (itms v).flatMap (fun it => if it.k = 5 then docP (getP ws) nm it else []) := by rw [getP, if_neg (by omega), if_pos h]
theorem getP_none (nm : ByteArray) (ws : List ByteArray) (v : Val) (h5 : v.k ≠ 5) (h4 : v.k ≠ 4) : getP (nm :: ws) v = [] := by rw [getP, if_neg h5, if_neg h4]

theorem list_parts (d : Nat) (v : Val) (h : fits d v = true) (hk : v.k = 4) : v.t.size ≤ 300 ∧ items v.t = some (itms v) ∧ (itms v).length ≤ 300 ∧ ∃ d', d = d' + 1 ∧ ∀ u ∈ itms v, fits d' u = true ∧ u.t.size ≤ 300 := by
  cases d with
  | zero => rw [fits, base_holder v (.inl hk)] at h; cases h
  | succ d =>
    rw [fits_list d v hk, Bool.and_eq_true, decide_eq_true_eq] at h
    obtain ⟨⟨_, hs⟩, hi⟩ := h
    cases hc : items v.t with
    | none => rw [hc] at hi; cases hi
    | some l =>
      have e : itms v = l := by unfold itms; rw [hc]; rfl
      rw [hc] at hi
      simp only [itemsAll, List.all_eq_true] at hi
      have hl := items_len v.t.size v.t l (Nat.le_refl _) hc
      rw [e]
      exact ⟨hs, rfl, by omega, d, rfl, fun u hu => ⟨hi u hu, by have := hl.2 u hu; omega⟩⟩
theorem doc_parts (d : Nat) (v : Val) (h : fits d v = true) (hk : v.k = 5) : v.t.size ≤ 300 ∧ fields v.t = some (flds v) ∧ (flds v).length ≤ 300 ∧ Rise (flds v) ∧ ∃ d', d = d' + 1 ∧ (∀ f ∈ flds v, fits d' f.v = true ∧ f.v.t.size ≤ 300 ∧ f.name.size ≤ 300) ∧ riseAll (fits d') em (flds v) = true := by
  cases d with
  | zero => rw [fits, base_holder v (.inr hk)] at h; cases h
  | succ d =>
    rw [fits_doc d v hk, Bool.and_eq_true, decide_eq_true_eq] at h
    obtain ⟨⟨_, hs⟩, hi⟩ := h
    cases hc : fields v.t with
    | none => rw [hc] at hi; cases hi
    | some l =>
      have e : flds v = l := by unfold flds; rw [hc]; rfl
      rw [hc] at hi
      simp only [fieldsAll] at hi
      have hl := fields_len v.t.size v.t l (Nat.le_refl _) hc
      rw [e]
      exact ⟨hs, rfl, by omega, rise_of _ l em hi, d, rfl, fun f hf => ⟨(riseAll_all _ l em hi f hf).1, by have := hl.2 f hf; omega, by have := hl.2 f hf; omega⟩, hi⟩
theorem fieldV_mem (nm : ByteArray) (x : Val) : ∀ l : List Fld, fieldV nm l = some x → ∃ f ∈ l, f.v = x
  | [], h => by simp [fieldV] at h
  | f :: r, h => by
    rw [fieldV] at h
    split at h
    · injection h with h; exact ⟨f, by simp, h⟩
    · obtain ⟨g, hg, e⟩ := fieldV_mem nm x r h; exact ⟨g, by simp [hg], e⟩

theorem cutT_sum {s a b : ByteArray} {wd : Nat} (h : cutT s wd = some (a, b)) : a.size + b.size + wd = s.size := by
  unfold cutT at h
  split at h
  · cases h
  · split at h
    · cases h
    · injection h with h; injection h with h1 h2; subst h1; subst h2
      simp; omega
theorem cutV_sum {s b : ByteArray} {v : Val} (h : cutV s = some (v, b)) : v.t.size + b.size < s.size := by
  unfold cutV at h
  split at h
  · cases h
  · rename_i hz
    have hr : ∀ {c : Nat} {r b : ByteArray} {v : Val}, cutR c r = some (v, b) → v.t.size + b.size ≤ r.size := by
      intro c r b v h
      unfold cutR at h
      split at h
      · injection h with h; injection h with h1 h2; subst h1; subst h2; have e0 : em.size = 0 := rfl; simp; omega
      · split at h
        · split at h
          · cases h
          · injection h with h; injection h with h1 h2; subst h1; subst h2; have e0 : em.size = 0 := rfl; simp; omega
        · split at h
          · split at h
            · cases h
            · split at h
              · cases h
              · injection h with h; injection h with h1 h2; subst h1; subst h2; have e0 : em.size = 0 := rfl; simp; omega
          · split at h
            · cases hc : cutT r 2 with
              | none => rw [hc] at h; cases h
              | some p => rw [hc] at h; injection h with h; injection h with h1 h2; subst h1; subst h2
                          have := cutT_sum (a := p.1) (b := p.2) hc; show p.1.size + p.2.size ≤ _; omega
            · cases h
    have := hr h
    simp at this
    omega
theorem items_sum : ∀ (m : Nat) (t : ByteArray) (l : List Val), t.size ≤ m → items t = some l → (l.map (fun v => v.t.size)).sum ≤ t.size
  | 0, t, l, hm, h => by
    rw [items_nil (by omega)] at h; injection h with h; subst h; simp
  | m + 1, t, l, hm, h => by
    by_cases hz : t.size = 0
    · rw [items_nil hz] at h; injection h with h; subst h; simp
    · cases hc : cutV t with
      | none => rw [items_none hz hc] at h; cases h
      | some p =>
        obtain ⟨v, r⟩ := p
        have hsum := cutV_sum hc
        rw [items_cons hc] at h
        cases hr : items r with
        | none => rw [hr] at h; cases h
        | some l2 =>
          rw [hr] at h; injection h with h; subst h
          have ih := items_sum m r l2 (by omega) hr
          show ((v :: l2).map (fun v => v.t.size)).sum ≤ _
          rw [List.map_cons, List.sum_cons]; omega
theorem fields_lt : ∀ (m : Nat) (t : ByteArray) (l : List Fld), t.size ≤ m → fields t = some l → ∀ f ∈ l, f.v.t.size < t.size
  | 0, t, l, hm, h => by
    rw [fields_nil (by omega)] at h; injection h with h; subst h; intro f hf; simp at hf
  | m + 1, t, l, hm, h => by
    by_cases hz : t.size = 0
    · rw [fields_nil hz] at h; injection h with h; subst h; intro f hf; simp at hf
    · cases hc : cutF t with
      | none => rw [fields_none hz hc] at h; cases h
      | some p =>
        obtain ⟨f, r⟩ := p
        have hs := cutF_size hc
        rw [fields_cons hc] at h
        cases hr : fields r with
        | none => rw [hr] at h; cases h
        | some l2 =>
          rw [hr] at h; injection h with h; subst h
          have ih := fields_lt m r l2 (by omega) hr
          intro g hg
          rcases List.mem_cons.mp hg with rfl | hg
          · exact hs.2.2
          · have := ih g hg; omega
theorem flds_lt (v : Val) (f : Fld) (hf : f ∈ flds v) : f.v.t.size < v.t.size := by
  unfold flds at hf
  cases hc : fields v.t with
  | none => rw [hc] at hf; simp at hf
  | some l => rw [hc] at hf; exact fields_lt v.t.size v.t l (Nat.le_refl _) hc f hf
theorem itms_sum (v : Val) : ((itms v).map (fun u => u.t.size)).sum ≤ v.t.size := by
  unfold itms
  cases hc : items v.t with
  | none => simp
  | some l => exact items_sum v.t.size v.t l (Nat.le_refl _) hc
theorem itms_len (v : Val) : (itms v).length ≤ v.t.size := by
  unfold itms
  cases hc : items v.t with
  | none => simp
  | some l => exact (items_len v.t.size v.t l (Nat.le_refl _) hc).1
theorem docP_len (r : Val → List Val) (hr : ∀ x, (r x).length ≤ 1 + x.t.size) (nm : ByteArray) (v : Val) : (docP r nm v).length ≤ v.t.size := by
  cases h : fieldV nm (flds v) with
  | none => rw [docP_none r nm v h]; simp
  | some x =>
    rw [docP_some r nm v x h]
    obtain ⟨f, hf, rfl⟩ := fieldV_mem nm x _ h
    have := flds_lt v f hf
    have := hr f.v
    omega
theorem flat_len_le {f : Val → List Val} : ∀ l : List Val, (∀ u, (f u).length ≤ u.t.size) → (l.flatMap f).length ≤ (l.map (fun u => u.t.size)).sum
  | [], _ => by simp
  | u :: l, h => by
    have ih := flat_len_le l h
    have := h u
    rw [List.flatMap_cons, List.length_append, List.map_cons, List.sum_cons]; omega
theorem getP_len : ∀ (ws : List ByteArray) (v : Val), (getP ws v).length ≤ 1 + v.t.size
  | [], v => by
    rw [getP_end]
    have := itms_len v
    split <;> simp <;> omega
  | nm :: ws, v => by
    have ih := getP_len ws
    by_cases h5 : v.k = 5
    · rw [getP_doc nm ws v h5]
      have := docP_len (getP ws) ih nm v
      omega
    · by_cases h4 : v.k = 4
      · rw [getP_list nm ws v h4]
        have h1 := flat_len_le (f := fun it => if it.k = 5 then docP (getP ws) nm it else []) (itms v) (fun u => by
          show (if u.k = 5 then docP (getP ws) nm u else []).length ≤ _
          split
          · exact docP_len (getP ws) ih nm u
          · simp)
        have := itms_sum v
        omega
      · rw [getP_none nm ws v h5 h4]; simp

/-- The values that a row holds, cell by cell. -/
theorem flat_at (l : List Val) (j : Nat) (u : Value) (h : (flat l)[j]? = some u) : ∃ i, ∃ hi : i < l.length, (j = i * 3 ∧ u = .int .i64 l[i].k) ∨ (j = i * 3 + 1 ∧ u = .int .i64 l[i].n) ∨ (j = i * 3 + 2 ∧ u = .string l[i].t) := by
  have hlen : (flat l).length = l.length * 3 := by
    clear h
    induction l with
    | nil => rfl
    | cons v l ih => unfold flat at ih ⊢; rw [List.flatMap_cons, List.length_append, ih, List.length_cons]; simp [row]; omega
  have hj : j < l.length * 3 := by
    rcases Nat.lt_or_ge j (l.length * 3) with h1 | h1
    · exact h1
    · rw [List.getElem?_eq_none (by omega)] at h; cases h
  have hi : j / 3 < l.length := by omega
  obtain ⟨f0, f1, f2⟩ := flat_get l (j / 3) hi
  refine ⟨j / 3, hi, ?_⟩
  rcases (show j = j / 3 * 3 ∨ j = j / 3 * 3 + 1 ∨ j = j / 3 * 3 + 2 by omega) with e | e | e
  · left; refine ⟨e, ?_⟩; rw [← e] at f0; rw [f0] at h; exact (Option.some.inj h).symm
  · right; left; refine ⟨e, ?_⟩; rw [← e] at f1; rw [f1] at h; exact (Option.some.inj h).symm
  · right; right; refine ⟨e, ?_⟩; rw [← e] at f2; rw [f2] at h; exact (Option.some.inj h).symm

end Go.Proofs.YtbplmgmajmomcaaGreatDoor
