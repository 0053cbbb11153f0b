/- What the specification's way along a path answers, for every right value: the whole of it. -/
import Derived.Test.YtpfbepbmiillbaaGreatDoorDocBQ
import Derived.Laws.AppendOwnNone
import Derived.Deep.DeepCutAuto
import Derived.Maps.AppendAt
import Derived.Deep.RegionWith
import Derived.Test.YtpfbepbmiillbaaGreatDoorSplitWQ
namespace Go.Proofs.YtpfbepbmiillbaaGreatDoor
open Go.RowKit
set_option linter.unusedVariables false

/-- A row of values in new memory is answered. -/
def OutV (l : List Val) (w' : World) (e : Ending) : Prop := ∃ g cap, e = .returned (.slice (some ⟨g, 0, none⟩) l.length cap) ∧ ReadV w' g l
theorem OutV.mk {l : List Val} {w' : World} {e : Ending} (g cap : Nat) (h : e = .returned (.slice (some ⟨g, 0, none⟩) l.length cap)) (hr : ReadV w' g l) : OutV l w' e := ⟨g, cap, h, hr⟩
theorem owns_one (w : World) (v : Val) {base : Nat} (hb : base ≤ w.heap.size) : (w.alloc (.cells #[.int .i64 v.k, .int .i64 v.n, .string v.t] 68)).ownsRow base 68 3 (.slice (some ⟨w.heap.size, 0, none⟩) 1 1) 1 (flat [v]) :=
  ⟨rfl, .inr ⟨w.heap.size, 1, _, rfl, hb, heap_alloc_new w _, Nat.le_refl _, by unfold maxLen; omega, rfl, rfl⟩⟩
theorem flat_one (l : List Val) : ∀ u ∈ flat l, u.oneCell' = true := by
  intro u hu
  unfold flat at hu
  obtain ⟨v, _, hv⟩ := List.mem_flatMap.mp hu
  simp [row] at hv
  rcases hv with rfl | rfl | rfl <;> rfl
theorem addr0 (g j : Nat) : (⟨g, 0, none⟩ : Addr).add j = ⟨g, j, none⟩ := by unfold Addr.add; split <;> simp_all
theorem ReadV.flat {w : World} {g : Nat} {l : List Val} (h : ReadV w g l) : ∀ j u, (flat l)[j]? = some u → w.cell? ((⟨g, 0, none⟩ : Addr).add j) = some u := by
  intro j u hu
  rw [addr0]
  obtain ⟨i, hi, hc⟩ := flat_at l j u hu
  have hx := h.cells i hi
  rcases hc with ⟨rfl, rfl⟩ | ⟨rfl, rfl⟩ | ⟨rfl, rfl⟩
  · exact hx.1
  · exact hx.2.1
  · exact hx.2.2
theorem flat_app (a b : List Val) : flat (a ++ b) = flat a ++ flat b := by unfold flat; simp

/-- Some block of U holds three cells, and all that lay in w lies in U as it did. -/
structure Lies3 (w U : World) (b : Nat) (x y z : Value) : Prop where
  bel : Below w.heap.size w U
  lt : b < U.heap.size
  c0 : U.cell? ⟨b, 0, none⟩ = some x
  c1 : U.cell? ⟨b, 1, none⟩ = some y
  c2 : U.cell? ⟨b, 2, none⟩ = some z

theorem tailS {w : World} {g off : Nat} {x : ByteArray} {l : List ByteArray} (h : ReadS w g off (x :: l)) (cap : Nat) (hcap : l.length + 1 ≤ cap) : ReadS w g (if cap - 1 = 0 then off else off + 1) l := by
  by_cases hc : cap - 1 = 0
  · rw [if_pos hc]
    have : l = [] := List.eq_nil_of_length_eq_zero (by omega)
    subst this
    exact ⟨h.lt, fun i hi => absurd hi (by simp)⟩
  · rw [if_neg hc]; exact h.tail
end Go.Proofs.YtpfbepbmiillbaaGreatDoor

/- What the specification's way along a path answers, for every right value and all names. -/
namespace Go.Proofs.YtpfbepbmiillbaaGreatDoor
open Go.RowKit
set_option linter.unusedVariables false

theorem ReadV.grown {w w' : World} {g : Nat} {l : List Val} {row : Option Nat} (h : ReadV w g l) (hg : w.grownBy w' row) (hne : some g ≠ row) : ReadV w' g l :=
  ⟨Nat.lt_of_lt_of_le h.lt hg.size, fun i hi => ⟨(World.cell?_of_block (hg.block g h.lt hne)).trans (h.cells i hi).1, (World.cell?_of_block (hg.block g h.lt hne)).trans (h.cells i hi).2.1, (World.cell?_of_block (hg.block g h.lt hne)).trans (h.cells i hi).2.2⟩⟩
/-- What comes behind a name of the first items. -/
def accP (r : Val → List Val) (nm : ByteArray) (l : List Val) (k : Nat) : List Val := (l.take k).flatMap (fun it => if it.k = 5 then docP r nm it else [])
theorem accP_succ (r : Val → List Val) (nm : ByteArray) (l : List Val) (k : Nat) (h : k < l.length) : accP r nm l (k + 1) = accP r nm l k ++ (if l[k].k = 5 then docP r nm l[k] else []) := by
  unfold accP; rw [List.take_succ_eq_append_getElem h, List.flatMap_append, List.flatMap_singleton]
theorem accP_full (r : Val → List Val) (nm : ByteArray) (l : List Val) (k : Nat) (h : l.length ≤ k) : accP r nm l k = l.flatMap (fun it => if it.k = 5 then docP r nm it else []) := by
  unfold accP; rw [List.take_of_length_le h]
theorem accP_len (ws : List ByteArray) (nm : ByteArray) (l : List Val) (k : Nat) : (accP (getP ws) nm l k).length ≤ (l.map (fun u => u.t.size)).sum := by
  have h1 := flat_len_le (f := fun it => if it.k = 5 then docP (getP ws) nm it else []) (l.take k) (fun u => by
    show (if u.k = 5 then docP (getP ws) nm u else []).length ≤ _
    split
    · exact docP_len (getP ws) (getP_len ws) nm u
    · simp)
  have h2 : ∀ (l : List Val) (k : Nat), ((l.take k).map (fun u => u.t.size)).sum ≤ (l.map (fun u => u.t.size)).sum := by
    intro l
    induction l with
    | nil => intro k; simp
    | cons u l ih =>
      intro k
      cases k with
      | zero => simp
      | succ k => rw [List.take_succ_cons, List.map_cons, List.map_cons, List.sum_cons, List.sum_cons]; have := ih k; omega
  unfold accP
  have := h2 l k
  omega

end Go.Proofs.YtpfbepbmiillbaaGreatDoor

/- What the program's way along a path answers, for every right value and all names: the value itself with its items, and what a document's field comes to. -/
namespace Go.Proofs.YtpfbepbmiillbaaGreatDoor
open Go.RowKit
set_option linter.unusedVariables false

/-- A row of values is answered, nil only where it has none. -/
def RowO (l : List Val) (w' : World) (e : Ending) : Prop := (e = .returned (.slice none 0 0) ∧ l = []) ∨ ∃ g cap, e = .returned (.slice (some ⟨g, 0, none⟩) l.length cap) ∧ ReadV w' g l
theorem RowO.nil {l : List Val} {w' : World} {e : Ending} (h : e = .returned (.slice none 0 0)) (hl : l = []) : RowO l w' e := .inl ⟨h, hl⟩
theorem RowO.mk {l : List Val} {w' : World} {e : Ending} (g cap : Nat) (h : e = .returned (.slice (some ⟨g, 0, none⟩) l.length cap)) (hr : ReadV w' g l) : RowO l w' e := .inr ⟨g, cap, h, hr⟩
theorem RowO.row {l : List Val} {w' : World} {e : Ending} (h : RowO l w' e) : ∃ p cap, e = .returned (.slice p l.length cap) ∧ RowV w' p l := by
  rcases h with ⟨he, hl⟩ | ⟨g, cap, he, hr⟩
  · subst hl; exact ⟨none, 0, he, .inl rfl⟩
  · exact ⟨_, cap, he, .inr ⟨g, rfl, hr⟩⟩

end Go.Proofs.YtpfbepbmiillbaaGreatDoor

/- What the program's way along a path answers, for every right value and all names: through lists, and the whole of it. -/
namespace Go.Proofs.YtpfbepbmiillbaaGreatDoor
open Go.RowKit
set_option linter.unusedVariables false

end Go.Proofs.YtpfbepbmiillbaaGreatDoor

/- What the specification's parting of a path answers, with the room of the row; and the program's. -/
namespace Go.Proofs.YtpfbepbmiillbaaGreatDoor
open Go.RowKit
set_option linter.unusedVariables false

theorem owns_cap {w : World} {base e size g n cap : Nat} {xs : List Value} (h : w.ownsRow base e size (.slice (some ⟨g, 0, none⟩) n cap) n xs) : n ≤ cap := by
  obtain ⟨_, h2⟩ := h
  rcases h2 with ⟨e, _⟩ | ⟨g', c', cur, e, _, _, hle, _⟩
  · cases e
  · injection e with _ _ e3; omega
set_option maxRecDepth 4000 in
set_option maxHeartbeats 1000000 in
theorem namesOfC_any (s : ByteArray) (w : World) (hs : s.size ≤ 1048576) :
    Calls Tryz.prog 221 #[.string s] w fun e w' => (∃ g cap, e = .returned (.slice (some ⟨g, 0, none⟩) (pieces s).length cap) ∧ (pieces s).length ≤ cap ∧ ReadS w' g 0 (pieces s)) ∧ Below w.heap.size w w' := by
  go_enter Tryz.func221, Tryz.ntmps221
  go_wp2_with (go_at_call 235; refine (split_any s _ hs).mono ?_; rintro e w' ⟨rfl, rfl⟩)
  go_ret
  exact ⟨⟨_, _, rfl, Nat.le_refl _, readS_alloc _ _ _⟩, (Below.refl _ _).alloc (Nat.le_refl _) _⟩

set_option maxRecDepth 8000 in
set_option maxHeartbeats 2000000 in
theorem l00CutC_any (s : ByteArray) (w : World) (hs : s.size ≤ 1048576) :
    Calls Tryz.prog 166 #[.string s, .int .u8 46] w fun e w' => (∃ g cap, e = .returned (.slice (some ⟨g, 0, none⟩) (pieces s).length cap) ∧  (pieces s).length ≤ cap ∧ ReadS w' g 0 (pieces s)) ∧ Below w.heap.size w w' := by
  obtain ⟨i0, hi, hz0, hz1, hz2⟩ := info_parts infoS
  go_enter Tryz.func166, Tryz.ntmps166
  go_wp2_with fail
  go_loopw [5, 6, 7] (fun v f i wr => ∃ (done : List ByteArray) (a k : Nat), k ≤ s.size ∧ a ≤ k ∧ f = .int .i64 a ∧ i = .int .i64 k ∧ pieces s = done ++ pieces (s.extract a s.size) ∧ (∀ j (hj : j < s.size), a ≤ j → j < k → s[j] ≠ 46) ∧ done.length ≤ k ∧ wr.ownsRow w.heap.size 9 1 v done.length (strs done) ∧ v ≠ .slice none 0 0 ∧ Below w.heap.size w wr) (fun _ _ i _ => s.size - (intOf i).toNat)
  case atStart => exact ⟨[], 0, 0, Nat.zero_le _, Nat.le_refl _, rfl, rfl, by rw [ByteArray.extract_zero_size]; rfl, fun j hj h1 h2 => absurd h2 (by omega), Nat.le_refl _, World.ownsRow_made w #[] 0 (Nat.le_refl _) (by unfold maxLen; omega) rfl, by simp, (Below.refl _ _).alloc (Nat.le_refl _) _⟩
  case round =>
    obtain ⟨done, a, k, hk, hak, rfl, rfl, hp, hno, hdk, hown, hnn, hbel⟩ := hrel
    have HP : Hid _ := hp
    have HO : Hid _ := hno
    have HN : Hid _ := hnn
    have hsz0 := hbel.size
    have hak2 : (a : Int) ≤ (k : Int) := by omega
    clear hp hno hnn
    by_cases hlt : k < s.size
    · by_cases hc : s[k] = 46
      · have e46 : ((s[k].toNat : Int) == 46) = true := by rw [hc]; rfl
        have hpc := pieces_from s a k hak hlt hc HO.out
        have HQ : Hid _ := hpc
        clear hpc hc
        go_wp2_with (at_builtin; refine wpList_append_own _ rfl (.tmp 20) (.tmp 25) 234 rfl w.heap.size 9 i0 (.string ByteArray.empty) 1 16 Tryz.underlying234 hi hz0 hz1 hz2 rfl (by decide) _ _ _ rfl (hown.alloc _) ⟨wr.heap.size, 0, none⟩ 1 1 [.string (s.extract a k)] rfl rfl ?c1 ?c2 ?c3 ?c4 ?c5 ?_)
        case c1 =>
          intro j u hj
          match j, hj with
          | 0, hj => simp at hj; subst hj; simp [Addr.add, go_sem]
          | j + 1, hj => simp at hj
        case c2 => intro u hu; simp at hu; subst hu; rfl
        case c3 => unfold maxLen; omega
        case c4 => omega
        case c5 => simp; omega
        intro v' w2 hown2 hgrow hnv
        have HV : Hid _ := hnv
        clear hnv
        have hb2 : Below w.heap.size w w2 := Below.grown (hbel.alloc (by omega) _) hgrow (by simp; omega) (owns_block hown)
        clear hgrow hown hbel
        go_wp2_with fail
        go_roundw
        case rel => exact ⟨done ++ [s.extract a k], k + 1, k + 1, by omega, by omega, by go_num, by go_num, by rw [HP.out, HQ.out]; simp, fun j hj h1 h2 => absurd h2 (by omega), by simp; omega, by rw [strs_snoc, List.length_append]; exact hown2, HV.out, hb2⟩
        case measure => simp [intOf]; omega
      · have e46 : ((s[k].toNat : Int) == 46) = false := beq_eq_false_iff_ne.mpr (fun e => hc (UInt8.toNat_inj.mp (by show s[k].toNat = 46; omega)))
        have HC : Hid _ := hc
        clear hc
        go_wp2_with fail
        go_roundw
        case rel => exact ⟨done, a, k + 1, by omega, by omega, rfl, by go_num, HP.out, fun j hj h1 h2 => by
          by_cases hjk : j = k
          · subst hjk; exact HC.out
          · exact HO.out j hj h1 (by omega), by omega, hown, HN.out, hbel⟩
        case measure => simp [intOf]; omega
    · have hk2 : k = s.size := by omega
      have hpr := pieces_rest s a (fun j hj h => HO.out j hj h (by omega))
      have has : (a : Int) ≤ (s.size : Int) := by omega
      have HQ : Hid _ := hpr
      clear hpr
      go_wp2_with (at_builtin; refine wpList_append_own _ rfl (.tmp 29) (.tmp 33) 234 rfl w.heap.size 9 i0 (.string ByteArray.empty) 1 16 Tryz.underlying234 hi hz0 hz1 hz2 rfl (by decide) _ _ _ rfl (hown.alloc _) ⟨wr.heap.size, 0, none⟩ 1 1 [.string (s.extract a s.size)] rfl rfl ?c1 ?c2 ?c3 ?c4 ?c5 ?_)
      case c1 =>
        intro j u hj
        match j, hj with
        | 0, hj => simp at hj; subst hj; simp [Addr.add, go_sem]
        | j + 1, hj => simp at hj
      case c2 => intro u hu; simp at hu; subst hu; rfl
      case c3 => unfold maxLen; omega
      case c4 => omega
      case c5 => simp; omega
      intro v' w2 hown2 hgrow hnv
      have hb2 : Below w.heap.size w w2 := Below.grown (hbel.alloc (by omega) _) hgrow (by simp; omega) (owns_block hown)
      have hpp : done ++ [s.extract a s.size] = pieces s := by rw [HP.out, HQ.out]
      have hown3 : w2.ownsRow w.heap.size 9 1 v' (pieces s).length (strs (pieces s)) := by
        rw [← hpp, strs_snoc, List.length_append]; exact hown2
      obtain ⟨g, cap, hv⟩ := owns_shape hown3 hnv
      subst hv
      have hgl : (pieces s).length ≤ cap := owns_cap hown3
      have HO3 : Hid _ := readS_own hown3
      clear hgrow hown hbel hown2 hown3 hpp hnv
      go_wp2_with fail
      go_ret
      exact ⟨⟨g, cap, rfl, hgl, HO3.out⟩, hb2⟩

end Go.Proofs.YtpfbepbmiillbaaGreatDoor
