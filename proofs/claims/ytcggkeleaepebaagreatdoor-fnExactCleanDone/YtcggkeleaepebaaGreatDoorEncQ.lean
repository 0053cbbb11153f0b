/- How the program and the specification lay numbers into bytes. -/
import Derived.Test.YtcggkeleaepebaaGreatDoorOKD
import Derived.Laws.BytesArg
import Derived.Laws.OwnMore
import Derived.Maps.AppendAt
import Derived.Maps.Range
import Derived.Test.YtcggkeleaepebaaGreatDoorUnder
import Derived.Test.YtcggkeleaepebaaGreatDoorLawVal
import Derived.Lib.AppendStr
import Derived.Laws.IdiomStrings
import Derived.Test.YtcggkeleaepebaaGreatDoorDepthM
namespace Go.Proofs.YtcggkeleaepebaaGreatDoor
open Go.RowKit
set_option linter.unusedVariables false

theorem infoE : (Tryz.prog.info? 5).map (fun i => (i.zero, i.size, i.bytes)) = some (some (.int .u8 0), 1, 1) := by kernel_rfl
def rowE (zs : List Int) : List Value := zs.map (Value.int .u8)
theorem rowE_append (a b : List Int) : rowE (a ++ b) = rowE a ++ rowE b := by unfold rowE; simp
theorem rowE_len (a : List Int) : (rowE a).length = a.length := by unfold rowE; simp
/-- The byte of a number that j others stand behind. -/
def nb (n : Int) (j : Nat) : Int := n / 2 ^ (8 * j) % 256
/-- The first k of a number's wd bytes. -/
def numK (n : Int) (wd k : Nat) : List Int := (List.range k).map fun j => nb n (wd - 1 - j)
def numB (n : Int) (wd : Nat) : List Int := numK n wd wd
theorem numK_len (n : Int) (wd k : Nat) : (numK n wd k).length = k := by unfold numK; simp
theorem numK_succ (n : Int) (wd k : Nat) : numK n wd (k + 1) = numK n wd k ++ [nb n (wd - 1 - k)] := by unfold numK; rw [List.range_succ]; simp
theorem numK_zero (n : Int) (wd : Nat) : numK n wd 0 = [] := rfl
/-- The slice value v owns the bytes zs. -/
def OwnE (w : World) (base : Nat) (v : Value) (zs : List Int) : Prop := w.ownsRow base 5 1 v zs.length (rowE zs)
/-- From w to w' nothing old but v's row has turned, and v' lies there or is new. -/
def Grew (w w' : World) (v v' : Value) : Prop := w.grownBy w' v.ownBlock ∧ (v'.ownBlock = v.ownBlock ∨ ∃ g, w.heap.size ≤ g ∧ v'.ownBlock = some g)
theorem Grew.refl (w : World) (v : Value) : Grew w w v v := ⟨World.grownBy.refl _ _, .inl rfl⟩
theorem Grew.trans {a b c : World} {u v x : Value} (h : Grew a b u v) (k : Grew b c v x) : Grew a c u x := by
  refine ⟨h.1.andThen k.1 (fun j hj => ?_), ?_⟩
  · rcases h.2 with h2 | ⟨g, hg, h2⟩
    · exact .inr (h2.symm.trans hj)
    · rw [h2] at hj; injection hj with hj; subst hj; exact .inl hg
  · rcases k.2 with k2 | ⟨g, hg, k2⟩
    · rcases h.2 with h2 | ⟨g, hg, h2⟩
      · exact .inl (k2.trans h2)
      · exact .inr ⟨g, hg, k2.trans h2⟩
    · exact .inr ⟨g, Nat.le_trans h.1.size hg, k2⟩
theorem Grew.alloc {a b : World} {u v : Value} (h : Grew a b u v) (o : Obj) : Grew a (b.alloc o) u v :=
  h.trans ⟨World.grownBy_alloc _ _ _, .inl rfl⟩
theorem Grew.below {w w' : World} {v v' : Value} {base : Nat} {zs : List Int} (h : Grew w w' v v') (ho : OwnE w base v zs) (hb : base ≤ w.heap.size) : Below base w w' :=
  Below.grown (Below.refl _ _) h.1 hb (fun k hk => (World.ownsRow.lt ho k hk).1)

/-- The text that numbers are, a byte each. -/
def txt (zs : List Int) : ByteArray := strOfNums zs
theorem convE (v : Value) (zs : List Int) (base : Nat) (w : World) (hv : v ≠ .slice none 0 0) (hown : OwnE w base v zs) : (convert 127 9 v).run Tryz.prog w = .ok (.string (txt zs)) w := by
  obtain ⟨g, cap, rfl⟩ := owns_shape hown hv
  refine run_convert_bytes_arg w 127 5 Tryz.underlying127 Tryz.underlying5 g 0 zs.length cap zs rfl (fun i hi => ?_) 9 Tryz.underlying9
  rw [Nat.zero_add]
  refine owns_cell hown i _ ?_
  unfold rowE; rw [List.getElem?_map, List.getElem?_eq_getElem hi, List.getD_eq_getElem?_getD, List.getElem?_eq_getElem hi]; rfl

end Go.Proofs.YtcggkeleaepebaaGreatDoor

/- How the specification lays a value into bytes. -/
namespace Go.Proofs.YtcggkeleaepebaaGreatDoor
open Go.RowKit
set_option linter.unusedVariables false

def bytesI (t : ByteArray) : List Int := t.data.toList.map fun c => (c.toNat : Int)
/-- A value's bytes. -/
def encB (v : Val) : List Int :=
  numB v.k 1 ++ (if v.k = 0 then [] else if v.k = 1 then numB v.n 1 else if v.k = 2 then numB (v.n + 4611686018427387904) 8 else numB v.t.size 2 ++ bytesI v.t)
theorem txt_append (a b : List Int) : txt (a ++ b) = txt a ++ txt b := by
  apply ByteArray.ext; simp [txt, strOfNums]
theorem txt_bytes (t : ByteArray) : txt (bytesI t) = t := by
  apply ByteArray.ext
  simp [txt, strOfNums, bytesI, Function.comp_def]
theorem bytesI_len (t : ByteArray) : (bytesI t).length = t.size := by unfold bytesI; simp
theorem txt_size (zs : List Int) : (txt zs).size = zs.length := strOfNums_size zs
theorem numB_len (n : Int) (wd : Nat) : (numB n wd).length = wd := numK_len _ _ _

end Go.Proofs.YtcggkeleaepebaaGreatDoor

/- How the program lays a value into bytes. -/
namespace Go.Proofs.YtcggkeleaepebaaGreatDoor
open Go.RowKit
set_option linter.unusedVariables false

theorem heap_size_alloc (w : World) (o : Obj) : (w.alloc o).heap.size = w.heap.size + 1 := by simp
theorem cell_new1 (w : World) (x : Value) (t : TypeId) (B : Nat) (hB : B = w.heap.size) : ∀ j u, [x][j]? = some u → (w.alloc (.cells #[x] t)).cell? ((⟨B, 0, none⟩ : Addr).add j) = some u := by
  subst hB; exact cell_one_new w x t
theorem numB_one (n : Int) : numB n 1 = [nb n 0] := rfl
theorem nb_zero (n : Int) : nb n 0 = n % 256 := by unfold nb; simp
theorem rowE_text (t : ByteArray) : rowE (bytesI t) = Lib.strCells t := by unfold rowE bytesI Lib.strCells; simp

/-- What laying a value behind bytes leaves. -/
def Laid1 (w w' : World) (base : Nat) (bv v' : Value) (zs : List Int) : Prop := OwnE w' base v' zs ∧ w.grownBy w' bv.ownBlock ∧ v' ≠ .slice none 0 0

end Go.Proofs.YtcggkeleaepebaaGreatDoor

/- Which kinds right values are of, and how a right value is laid into bytes. -/
namespace Go.Proofs.YtcggkeleaepebaaGreatDoor
open Go.RowKit
set_option linter.unusedVariables false

theorem ok_kinds (v : Val) (h : okB v = true) : v.k = 0 ∨ v.k = 1 ∨ (v.k = 2 ∧ -1000000000000 ≤ v.n ∧ v.n ≤ 1000000000000) ∨ ((v.k = 3 ∨ v.k = 4 ∨ v.k = 5) ∧ v.t.size ≤ 300) := by
  have hs : v.t.size ≤ 300 := by
    rcases Nat.lt_or_ge 300 v.t.size with h' | h'
    · rw [ok_big v h'] at h; cases h
    · exact h'
  by_cases h4 : v.k = 4
  · exact .inr (.inr (.inr ⟨.inr (.inl h4), hs⟩))
  · by_cases h5 : v.k = 5
    · exact .inr (.inr (.inr ⟨.inr (.inr h5), hs⟩))
    · unfold okB at h
      rw [fits_base 5 v h4 h5] at h
      unfold base at h
      by_cases k0 : v.k = 0
      · exact .inl k0
      · rw [if_neg k0] at h
        by_cases k1 : v.k = 1
        · exact .inr (.inl k1)
        · rw [if_neg k1] at h
          by_cases k2 : v.k = 2
          · rw [if_pos k2, decide_eq_true_eq] at h
            exact .inr (.inr (.inl ⟨k2, h.1, h.2.1⟩))
          · rw [if_neg k2] at h
            by_cases k3 : v.k = 3
            · exact .inr (.inr (.inr ⟨.inl k3, hs⟩))
            · rw [if_neg k3] at h; cases h

theorem encB_len (v : Val) (h : okB v = true) : 1 ≤ (encB v).length ∧ (encB v).length ≤ 400 := by
  obtain ⟨k, n, t⟩ := v
  rcases ok_kinds _ h with h | h | ⟨h, _⟩ | ⟨h, hs⟩
  · simp at h; subst h; unfold encB; simp [numB_len]
  · simp at h; subst h; unfold encB; simp [numB_len]
  · simp at h; subst h; unfold encB; simp [numB_len]
  · simp at h hs
    rcases h with rfl | rfl | rfl <;> (unfold encB; simp [numB_len, bytesI_len]; omega)

theorem nb_range (n : Int) (j : Nat) : 0 ≤ nb n j ∧ nb n j < 256 := by unfold nb; omega
theorem numB_range (n : Int) (wd : Nat) : ∀ z ∈ numB n wd, 0 ≤ z ∧ z < 256 := by
  intro z hz
  unfold numB numK at hz
  obtain ⟨j, _, rfl⟩ := List.mem_map.mp hz
  exact nb_range _ _
theorem bytesI_range (t : ByteArray) : ∀ z ∈ bytesI t, 0 ≤ z ∧ z < 256 := by
  intro z hz
  unfold bytesI at hz
  obtain ⟨c, _, rfl⟩ := List.mem_map.mp hz
  have := c.toNat_lt
  omega
theorem encB_range (v : Val) : ∀ z ∈ encB v, 0 ≤ z ∧ z < 256 := by
  intro z hz
  unfold encB at hz
  rcases List.mem_append.mp hz with h | h
  · exact numB_range _ _ z h
  · split at h
    · cases h
    · split at h
      · exact numB_range _ _ z h
      · split at h
        · exact numB_range _ _ z h
        · rcases List.mem_append.mp h with h | h
          · exact numB_range _ _ z h
          · exact bytesI_range _ z h
theorem bytesRow_get (zs : List Int) (hr : ∀ z ∈ zs, 0 ≤ z ∧ z < 256) (cap i : Nat) (hi : i < zs.length) : (bytesRow (txt zs) cap)[i]? = some (.int .u8 (zs.getD i 0)) := by
  have e1 : (txt zs).data.size = zs.length := by simp [txt, strOfNums]
  unfold bytesRow
  rw [Array.getElem?_append_left (by simp [e1]; exact hi), Array.getElem?_map]
  have e2 : (txt zs).data[i]? = some (UInt8.ofNat (zs[i]).toNat) := by simp [txt, strOfNums, hi]
  rw [e2, List.getD_eq_getElem?_getD, List.getElem?_eq_getElem hi]
  have := hr zs[i] (List.getElem_mem _)
  simp only [Option.map_some, Option.getD_some]
  congr 2
  rw [UInt8.toNat_ofNat_of_lt' (by show (zs[i]).toNat < 256; omega)]
  omega

end Go.Proofs.YtcggkeleaepebaaGreatDoor

/- Values are read back from their bytes, said plainly: nothing of the program is used here. -/
namespace Go.Proofs.YtcggkeleaepebaaGreatDoor
open Go.RowKit
set_option linter.unusedVariables false

def by8 (z : Int) : UInt8 := UInt8.ofNat z.toNat
theorem txt_list (zs : List Int) : (txt zs).data.toList = zs.map by8 := strOfNums_data zs
theorem by8_nat (z : Int) (h0 : 0 ≤ z) (h1 : z < 256) : ((by8 z).toNat : Int) = z := by
  unfold by8
  rw [UInt8.toNat_ofNat_of_lt' (by show z.toNat < 256; omega)]
  omega
theorem pow8 (j : Nat) : (2 : Int) ^ (8 * j) = ((256 ^ j : Nat) : Int) := by
  rw [Int.pow_mul]; norm_cast
theorem by8_nb (n j : Nat) : (by8 (nb n j)).toNat = n / 256 ^ j % 256 := by
  have h := nb_range n j
  have e := by8_nat (nb n j) h.1 h.2
  have e2 : nb (n : Int) j = ((n / 256 ^ j % 256 : Nat) : Int) := by
    unfold nb; rw [pow8, Int.natCast_emod, Int.natCast_ediv]; rfl
  rw [e2] at e ⊢
  exact_mod_cast e
theorem be_num (n wd : Nat) : ∀ k, k ≤ wd → n < 256 ^ wd → beL ((numK (n : Int) wd k).map by8) = n / 256 ^ (wd - k)
  | 0, _, h => by rw [numK_zero, Nat.sub_zero, Nat.div_eq_of_lt h]; rfl
  | k + 1, hk, h => by
    rw [numK_succ, List.map_append, List.map_cons, List.map_nil, beL_snoc, be_num n wd k (by omega) h, by8_nb]
    have e : wd - k = (wd - 1 - k) + 1 := by omega
    have e2 : wd - (k + 1) = wd - 1 - k := by omega
    rw [e, e2, Nat.pow_succ, ← Nat.div_div_eq_div_mul]
    have := Nat.div_add_mod (n / 256 ^ (wd - 1 - k)) 256
    omega
theorem be_numB (n wd : Nat) (h : n < 256 ^ wd) : beL ((numB (n : Int) wd).map by8) = n := by
  unfold numB; rw [be_num n wd wd (Nat.le_refl _) h]; simp

theorem txt_cut (a b c : List Int) : (txt (a ++ b ++ c)).extract a.length (a.length + b.length) = txt b := by
  apply ByteArray.ext; apply Array.ext'
  rw [extract_list, txt_list, txt_list]
  simp
theorem txt_tail (a b : List Int) : (txt (a ++ b)).extract a.length (txt (a ++ b)).size = txt b := by
  have := txt_cut a b []
  rw [List.append_nil] at this
  rw [txt_size, List.length_append]; exact this
theorem beT_txt (a b : List Int) (k : Nat) (h : k = a.length) : beT (txt (a ++ b)) k = beL (a.map by8) := by
  unfold beT; rw [txt_list, h]; simp
theorem cutT_txt (wd : Nat) (t : ByteArray) (r : List Int) (h : t.size < 256 ^ wd) : cutT (txt (numB t.size wd ++ bytesI t ++ r)) wd = some (t, txt r) := by
  have hb : beT (txt (numB (t.size : Int) wd ++ bytesI t ++ r)) wd = t.size := by
    rw [List.append_assoc, beT_txt _ _ wd (numB_len _ _).symm, be_numB _ _ h]
  have hsz : (txt (numB (t.size : Int) wd ++ bytesI t ++ r)).size = wd + t.size + r.length := by
    rw [txt_size]; simp [numB_len, bytesI_len]; omega
  unfold cutT
  rw [hb, if_neg (by omega), if_neg (by omega)]
  have e1 := txt_cut (numB (t.size : Int) wd) (bytesI t) r
  rw [numB_len, bytesI_len, txt_bytes] at e1
  have e2 := txt_tail (numB (t.size : Int) wd ++ bytesI t) r
  rw [List.length_append, numB_len, bytesI_len] at e2
  rw [e1, e2]

theorem txt_cons (z : Int) (r : List Int) : (txt (z :: r)).extract 1 (txt (z :: r)).size = txt r := txt_tail [z] r
theorem hd_txt (z : Int) (r : List Int) : hd (txt (z :: r)) = (by8 z).toNat := by unfold hd; rw [txt_list]; rfl
theorem cutV_txt (z : Int) (r : List Int) (h0 : 0 ≤ z) (h1 : z < 256) : cutV (txt (z :: r)) = cutR z.toNat (txt r) := by
  unfold cutV
  have hs : (txt (z :: r)).size = r.length + 1 := by rw [txt_size]; rfl
  rw [if_neg (by omega), txt_cons, hd_txt]
  have := by8_nat z h0 h1
  congr 1; omega
theorem encB_cons (v : Val) (h : okB v = true) : ∃ r, encB v = v.k :: r ∧ 0 ≤ v.k ∧ v.k < 256 ∧ r = (if v.k = 0 then [] else if v.k = 1 then numB v.n 1 else if v.k = 2 then numB (v.n + 4611686018427387904) 8 else numB v.t.size 2 ++ bytesI v.t) := by
  have hk : 0 ≤ v.k ∧ v.k < 256 := by rcases ok_kinds v h with h | h | ⟨h, _⟩ | ⟨h, _⟩ <;> omega
  refine ⟨_, ?_, hk.1, hk.2, rfl⟩
  unfold encB
  rw [numB_one, nb_zero, Int.emod_eq_of_lt hk.1 hk.2]; rfl
theorem ok_parts (v : Val) (h : okB v = true) : (v.k = 0 → v.n = 0 ∧ v.t = em) ∧ (v.k = 1 → 0 ≤ v.n ∧ v.n ≤ 1 ∧ v.t = em) ∧ (v.k = 2 → v.t = em) ∧ (3 ≤ v.k → v.n = 0) := by
  by_cases h4 : v.k = 4
  · obtain ⟨_, _, _, _, hn, _⟩ := (show ∃ e l, 5 = e + 1 ∧ items v.t = some l ∧ v.n = 0 ∧ True from by
      unfold okB at h; rw [fits_list 4 v h4, Bool.and_eq_true, decide_eq_true_eq] at h
      cases hi : items v.t with
      | none => rw [hi] at h; cases h.2
      | some l => exact ⟨4, l, rfl, rfl, h.1.1, trivial⟩)
    exact ⟨by omega, by omega, by omega, fun _ => hn⟩
  · by_cases h5 : v.k = 5
    · unfold okB at h; rw [fits_doc 4 v h5, Bool.and_eq_true, decide_eq_true_eq] at h
      exact ⟨by omega, by omega, by omega, fun _ => h.1.1⟩
    · unfold okB at h
      rw [fits_base 5 v h4 h5] at h
      unfold base at h
      by_cases k0 : v.k = 0
      · rw [if_pos k0, decide_eq_true_eq] at h
        exact ⟨fun _ => ⟨h.1, empty_of _ h.2⟩, by omega, by omega, by omega⟩
      · rw [if_neg k0] at h
        by_cases k1 : v.k = 1
        · rw [if_pos k1, decide_eq_true_eq] at h
          exact ⟨by omega, fun _ => ⟨h.1, h.2.1, empty_of _ h.2.2⟩, by omega, by omega⟩
        · rw [if_neg k1] at h
          by_cases k2 : v.k = 2
          · rw [if_pos k2, decide_eq_true_eq] at h
            exact ⟨by omega, by omega, fun _ => empty_of _ h.2.2, by omega⟩
          · rw [if_neg k2] at h
            by_cases k3 : v.k = 3
            · rw [if_pos k3, decide_eq_true_eq] at h
              exact ⟨by omega, by omega, by omega, fun _ => h.1⟩
            · rw [if_neg k3] at h; cases h
/-- **A value is read back from the head of its bytes, whatever stands behind them.** -/
theorem cutV_enc (v : Val) (h : okB v = true) (r : List Int) : cutV (txt (encB v ++ r)) = some (v, txt r) := by
  obtain ⟨q, e, hk0, hk1, hq⟩ := encB_cons v h
  obtain ⟨p0, p1, p2, p3⟩ := ok_parts v h
  rw [e, List.cons_append, cutV_txt _ _ hk0 hk1]
  have hks := ok_kinds v h
  obtain ⟨k, n, t⟩ := v
  simp only at *
  unfold cutR
  rcases hks with rfl | rfl | ⟨rfl, h1, h2⟩ | ⟨hk, hs⟩
  · obtain ⟨rfl, rfl⟩ := p0 rfl
    rw [hq]; simp
  · obtain ⟨h1, h2, rfl⟩ := p1 rfl
    have hq2 : q = numB n 1 := by rw [hq]; simp
    obtain ⟨m, rfl⟩ : ∃ m : Nat, n = m := ⟨n.toNat, by omega⟩
    have hb : beT (txt (q ++ r)) 1 = m := by rw [hq2, beT_txt _ _ 1 (numB_len _ _).symm, be_numB m 1 (by omega)]
    have hx : (txt (q ++ r)).extract 1 (txt (q ++ r)).size = txt r := by
      have := txt_tail q r; rw [hq2, numB_len] at this; rw [hq2]; exact this
    have hsz : ¬ (txt (q ++ r)).size < 1 := by rw [txt_size, List.length_append, hq2, numB_len]; omega
    rw [if_neg (by decide), if_pos (by decide), if_neg hsz, hb, hx]
  · have ht := p2 rfl
    subst ht
    have hq2 : q = numB (n + 4611686018427387904) 8 := by rw [hq]; simp
    obtain ⟨m, hm⟩ : ∃ m : Nat, n + 4611686018427387904 = m := ⟨(n + 4611686018427387904).toNat, by omega⟩
    rw [hm] at hq2
    have hml : m < 4611687018427387905 := by omega
    have hb : beT (txt (q ++ r)) 8 = m := by rw [hq2, beT_txt _ _ 8 (numB_len _ _).symm, be_numB m 8 (by omega)]
    have hx : (txt (q ++ r)).extract 8 (txt (q ++ r)).size = txt r := by
      have := txt_tail q r; rw [hq2, numB_len] at this; rw [hq2]; exact this
    have hsz : ¬ (txt (q ++ r)).size < 8 := by rw [txt_size, List.length_append, hq2, numB_len]; omega
    have hhd : hd (txt (q ++ r)) ≤ 127 := by
      rw [hq2, show numB (m : Int) 8 = nb m 7 :: [nb m 6, nb m 5, nb m 4, nb m 3, nb m 2, nb m 1, nb m 0] from rfl, List.cons_append, hd_txt, by8_nb]
      omega
    rw [if_neg (by decide), if_neg (by decide), if_pos (by decide), if_neg hsz, if_neg (by omega), hb, hx, ← hm]
    simp
  · have hn := p3 (by rcases hk with rfl | rfl | rfl <;> omega)
    subst hn
    have hq2 : q ++ r = numB (t.size : Int) 2 ++ bytesI t ++ r := by
      rw [hq]; rcases hk with rfl | rfl | rfl <;> simp
    rw [hq2, cutT_txt 2 t r (by omega)]
    rcases hk with rfl | rfl | rfl <;> simp

theorem items_enc : ∀ (l : List Val), (∀ v ∈ l, okB v = true) → items (txt (l.flatMap encB)) = some l
  | [], _ => items_nil (by rw [txt_size]; rfl)
  | v :: l, h => by
    rw [List.flatMap_cons, items_cons (cutV_enc v (h v (by simp)) _), items_enc l (fun u hu => h u (by simp [hu]))]; rfl

end Go.Proofs.YtcggkeleaepebaaGreatDoor

/- A right value fits a depth just if it is no deeper; lists and documents made of right values; nothing of the program is used here. -/
namespace Go.Proofs.YtcggkeleaepebaaGreatDoor
open Go.RowKit
set_option linter.unusedVariables false

theorem dmax_le (p : Val → Int) (l : List Val) (d : Int) (hd : 0 ≤ d) : dmax p l ≤ d ↔ ∀ v ∈ l, p v ≤ d := by
  suffices h : ∀ (l : List Val) (n : Int), n ≤ d → (l.foldl (fun n v => max n (p v)) n ≤ d ↔ ∀ v ∈ l, p v ≤ d) by
    exact h l 0 hd
  intro l
  induction l with
  | nil => intro n hn; simp [hn]
  | cons v l ih =>
    intro n hn
    rw [List.foldl_cons]
    by_cases hv : p v ≤ d
    · rw [ih (max n (p v)) (by omega)]; simp [hv]
    · constructor
      · intro h
        exfalso
        have hm : ∀ (l : List Val) (n : Int), n ≤ l.foldl (fun n v => max n (p v)) n := by
          intro l
          induction l with
          | nil => intro n; exact Int.le_refl _
          | cons u l ih2 => intro n; exact Int.le_trans (by omega) (ih2 (max n (p u)))
        have := hm l (max n (p v))
        omega
      · intro h; exact absurd (h v (by simp)) hv
theorem dmax_congr (p q : Val → Int) (l : List Val) (h : ∀ v ∈ l, p v = q v) : dmax p l = dmax q l := by
  unfold dmax
  suffices hh : ∀ (l : List Val) (n : Int), (∀ v ∈ l, p v = q v) → l.foldl (fun n v => max n (p v)) n = l.foldl (fun n v => max n (q v)) n by exact hh l 0 h
  intro l
  induction l with
  | nil => intro n _; rfl
  | cons v l ih => intro n hv; rw [List.foldl_cons, List.foldl_cons, hv v (by simp)]; exact ih _ (fun u hu => hv u (by simp [hu]))
theorem rise_swap (p q : Val → Bool) : ∀ (l : List Fld) (m : ByteArray), riseAll p m l = true → (∀ f ∈ l, q f.v = true) → riseAll q m l = true
  | [], _, _, _ => rfl
  | f :: l, m, h, hq => by
    simp only [riseAll, Bool.and_eq_true] at h ⊢
    exact ⟨⟨h.1.1, hq f (by simp)⟩, rise_swap p q l _ h.2 (fun g hg => hq g (by simp [hg]))⟩
/-- At a greater depth the same values fit, and their depth is told the same. -/
theorem fits_depth : ∀ (d : Nat) (v : Val), fits d v = true → ∀ e, d ≤ e → fits e v = true ∧ depthV e v = depthV d v
  | d, v, h, e, hde => by
    by_cases h4 : v.k = 4
    · obtain ⟨d', l, rfl, hi, hn, hs, hall⟩ := fits_items h4 h
      obtain ⟨e', rfl⟩ : ∃ e', e = e' + 1 := ⟨e - 1, by omega⟩
      have ih : ∀ u ∈ l, fits e' u = true ∧ depthV e' u = depthV d' u := fun u hu => fits_depth d' u (hall u hu).1 e' (by omega)
      constructor
      · rw [fits_list e' v h4, hi, Bool.and_eq_true, decide_eq_true_eq]
        exact ⟨⟨hn, hs⟩, by simp only [itemsAll, List.all_eq_true]; exact fun u hu => (ih u hu).1⟩
      · rw [depthV_list e' v l h4 hi, depthV_list d' v l h4 hi]
        congr 1
        exact dmax_congr _ _ l (fun u hu => (ih u hu).2)
    · by_cases h5 : v.k = 5
      · obtain ⟨d', l, rfl, hi, hn, hs, hr, hall⟩ := fits_fields h5 h
        obtain ⟨e', rfl⟩ : ∃ e', e = e' + 1 := ⟨e - 1, by omega⟩
        have ih : ∀ f ∈ l, fits e' f.v = true ∧ depthV e' f.v = depthV d' f.v := fun f hf => fits_depth d' f.v (hall f hf).1 e' (by omega)
        constructor
        · rw [fits_doc e' v h5, hi, Bool.and_eq_true, decide_eq_true_eq]
          exact ⟨⟨hn, hs⟩, rise_swap _ _ l em hr (fun f hf => (ih f hf).1)⟩
        · rw [depthV_doc e' v l h5 hi, depthV_doc d' v l h5 hi]
          unfold dF
          congr 1
          exact dmax_congr _ _ _ (fun u hu => by
            obtain ⟨f, hf, rfl⟩ := List.mem_map.mp hu
            exact (ih f hf).2)
      · rw [fits_base d v h4 h5] at h
        exact ⟨by rw [fits_base e v h4 h5]; exact h, by rw [depthV_plain e v h4 h5, depthV_plain d v h4 h5]⟩

/-- A right value that is no deeper than d fits d. -/
theorem fits_of_depth : ∀ (e d : Nat) (v : Val), fits e v = true → depthV e v ≤ d → fits d v = true
  | e, d, v, h, hd => by
    by_cases hed : e ≤ d
    · exact (fits_depth e v h d hed).1
    · by_cases h4 : v.k = 4
      · obtain ⟨e', l, rfl, hi, hn, hs, hall⟩ := fits_items h4 h
        rw [depthV_list e' v l h4 hi] at hd
        have h0 := (dmax_bd (depthV e') e' (by omega) (depthV_bd e') l).1
        obtain ⟨d', rfl⟩ : ∃ d', d = d' + 1 := ⟨d - 1, by omega⟩
        have hle := (dmax_le (depthV e') l d' (by omega)).mp (by omega)
        rw [fits_list d' v h4, hi, Bool.and_eq_true, decide_eq_true_eq]
        exact ⟨⟨hn, hs⟩, by simp only [itemsAll, List.all_eq_true]; exact fun u hu => fits_of_depth e' d' u (hall u hu).1 (hle u hu)⟩
      · by_cases h5 : v.k = 5
        · obtain ⟨e', l, rfl, hi, hn, hs, hr, hall⟩ := fits_fields h5 h
          rw [depthV_doc e' v l h5 hi] at hd
          unfold dF at hd
          have h0 := (dmax_bd (depthV e') e' (by omega) (depthV_bd e') (l.map Fld.v)).1
          obtain ⟨d', rfl⟩ : ∃ d', d = d' + 1 := ⟨d - 1, by omega⟩
          have hle := (dmax_le (depthV e') (l.map Fld.v) d' (by omega)).mp (by omega)
          rw [fits_doc d' v h5, hi, Bool.and_eq_true, decide_eq_true_eq]
          exact ⟨⟨hn, hs⟩, rise_swap _ _ l em hr (fun f hf => fits_of_depth e' d' f.v (hall f hf).1 (hle f.v (List.mem_map.mpr ⟨f, hf, rfl⟩)))⟩
        · rw [fits_base e v h4 h5] at h
          rw [fits_base d v h4 h5]; exact h
/-- **A list made of right values is right just if none of them is too deep.** -/
theorem list_made (l : List Val) (hall : ∀ v ∈ l, okB v = true) (hs : (l.flatMap encB).length ≤ 300) :
    okB ⟨4, 0, txt (l.flatMap encB)⟩ = decide (dmax (depthV 5) l ≤ 4) := by
  have hsz : (txt (l.flatMap encB)).size ≤ 300 := by rw [txt_size]; exact hs
  unfold okB
  rw [fits_list 4 _ rfl]
  show (decide ((0 : Int) = 0 ∧ (txt (l.flatMap encB)).size ≤ 300) && itemsAll (fits 4) (items (txt (l.flatMap encB)))) = _
  rw [items_enc l hall, decide_eq_true ⟨rfl, hsz⟩, Bool.true_and]
  rw [Bool.eq_iff_iff, decide_eq_true_eq, dmax_le (depthV 5) l 4 (by omega)]
  simp only [itemsAll, List.all_eq_true]
  constructor
  · intro h v hv
    have h1 := fits_depth 4 v (h v hv) 5 (by omega)
    have h2 := (depthV_bd 4 v).2
    rw [h1.2]; exact_mod_cast h2
  · intro h v hv
    exact fits_of_depth 5 4 v (hall v hv) (by exact_mod_cast h v hv)

def encF (f : Fld) : List Int := numB f.name.size 1 ++ bytesI f.name ++ encB f.v
theorem cutF_enc (f : Fld) (h : okB f.v = true) (hn : f.name.size < 256) (r : List Int) : cutF (txt (encF f ++ r)) = some (f, txt r) := by
  unfold cutF encF
  rw [List.append_assoc (numB _ 1 ++ bytesI f.name), cutT_txt 1 f.name _ (by omega)]
  simp only [cutV_enc f.v h r]
  rfl
theorem fields_enc : ∀ (l : List Fld), (∀ f ∈ l, okB f.v = true ∧ f.name.size < 256) → fields (txt (l.flatMap encF)) = some l
  | [], _ => fields_nil (by rw [txt_size]; rfl)
  | f :: l, h => by
    rw [List.flatMap_cons, fields_cons (cutF_enc f (h f (by simp)).1 (h f (by simp)).2 _), fields_enc l (fun u hu => h u (by simp [hu]))]; rfl
/-- **A document made of right values under short names that rise is right just if none of them is too deep.** -/
theorem doc_made (l : List Fld) (hall : ∀ f ∈ l, okB f.v = true) (hr : riseAll (fun _ => true) em l = true) (hs : (l.flatMap encF).length ≤ 300) :
    okB ⟨5, 0, txt (l.flatMap encF)⟩ = decide (dF (depthV 5) l ≤ 4) := by
  have hsz : (txt (l.flatMap encF)).size ≤ 300 := by rw [txt_size]; exact hs
  have hnm : ∀ f ∈ l, okB f.v = true ∧ f.name.size < 256 := fun f hf => ⟨hall f hf, by
    have := (rise_all _ l em hr f hf).1
    unfold shortB at this
    rw [Bool.and_eq_true, decide_eq_true_eq] at this
    omega⟩
  unfold okB
  rw [fits_doc 4 _ rfl]
  show (decide ((0 : Int) = 0 ∧ (txt (l.flatMap encF)).size ≤ 300) && fieldsAll (fits 4) em (fields (txt (l.flatMap encF)))) = _
  rw [fields_enc l hnm, decide_eq_true ⟨rfl, hsz⟩, Bool.true_and]
  show riseAll (fits 4) em l = _
  unfold dF
  rw [Bool.eq_iff_iff, decide_eq_true_eq, dmax_le (depthV 5) (l.map Fld.v) 4 (by omega)]
  constructor
  · intro h v hv
    obtain ⟨f, hf, rfl⟩ := List.mem_map.mp hv
    have h1 := fits_depth 4 f.v (rise_all _ l em h f hf).2 5 (by omega)
    have h2 := (depthV_bd 4 f.v).2
    rw [h1.2]; exact_mod_cast h2
  · intro h
    exact rise_swap _ _ l em hr (fun f hf => fits_of_depth 5 4 f.v (hall f hf) (by exact_mod_cast h f.v (List.mem_map.mpr ⟨f, hf, rfl⟩)))

end Go.Proofs.YtcggkeleaepebaaGreatDoor
