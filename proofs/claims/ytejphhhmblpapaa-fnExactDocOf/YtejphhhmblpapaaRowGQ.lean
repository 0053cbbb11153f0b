import Derived.Test.YtejphhhmblpapaaRowF
import Derived.Test.YtejphhhmblpapaaInsFQ
import Derived.Test.YtejphhhmblpapaaDocJQ
import Derived.Test.YtejphhhmblpapaaRowV
import Derived.Deep.Slices
import Derived.Deep.Strs
import Derived.Lib.SmallJoins
import Derived.ChangeSame
import Derived.Test.YtejphhhmblpapaaDocSQ
import Derived.Test.YtejphhhmblpapaaDocKQ
/- What the laws' own helpers on rows of fields that come in answer. -/
namespace Go.Proofs.Ytejphhhmblpapaa
open Go.RowKit
set_option linter.unusedVariables false

/-- Fields that came in. -/
def InF (w : World) (a : Option Addr) (l : List Fld) : Prop := l.length = 0 ∨ ∃ b off, a = some ⟨b, off, none⟩ ∧ b < w.heap.size ∧ ∀ i (h : i < l.length), w.cell? ⟨b, off + i * 4, none⟩ = some (.string l[i].name) ∧ w.cell? ⟨b, off + i * 4 + 1, none⟩ = some (.int .i64 l[i].v.k) ∧ w.cell? ⟨b, off + i * 4 + 2, none⟩ = some (.int .i64 l[i].v.n) ∧ w.cell? ⟨b, off + i * 4 + 3, none⟩ = some (.string l[i].v.t)
theorem InF.step {w w' : World} {a : Option Addr} {l : List Fld} (h : InF w a l) (hb : Below w.heap.size w w') : InF w' a l := by
  rcases h with h | ⟨b, off, ha, hlt, hc⟩
  · exact .inl h
  · exact .inr ⟨b, off, ha, Nat.lt_of_lt_of_le hlt hb.size, fun i hi => ⟨(hb.cell hlt).trans (hc i hi).1, (hb.cell hlt).trans (hc i hi).2.1, (hb.cell hlt).trans (hc i hi).2.2.1, (hb.cell hlt).trans (hc i hi).2.2.2⟩⟩
theorem take_allF (p : Fld → Prop) (l : List Fld) (k : Nat) (h : k < l.length) (h1 : ∀ v ∈ l.take k, p v) (h2 : p l[k]) : ∀ v ∈ l.take (k + 1), p v := by
  intro v hv
  rw [List.take_succ_eq_append_getElem h] at hv
  rcases List.mem_append.mp hv with hv | hv
  · exact h1 v hv
  · rw [List.mem_singleton.mp hv]; exact h2

set_option maxRecDepth 4000 in
set_option maxHeartbeats 1000000 in
theorem szField_any (f : Fld) (c : Int) (w : World) (hn : f.name.size ≤ maxLen) (hs : f.v.t.size ≤ maxLen) (hc : 0 ≤ c) (hc2 : c ≤ 1048576) :
    Calls Try.prog 71 #[aggF f, .int .i64 c] w fun e w' => e = .returned (.int .i64 (if c < (f.name.size : Int) + f.v.t.size then -1 else c - f.name.size - f.v.t.size)) ∧ Below w.heap.size w w' := by
  have hn2 := hn
  unfold maxLen at hn2
  have F0 := FB.start w f 100
  have A0 : Below w.heap.size w (w.alloc (.cells #[.string f.name, .int .i64 f.v.k, .int .i64 f.v.n, .string f.v.t] 100)) := (Below.refl _ _).alloc (Nat.le_refl _) _
  by_cases h : c < (f.name.size : Int)
  · have h3 : c - (f.name.size : Int) < 0 := by omega
    have hw1 : IntKind.i64.wrap (c - (f.name.size : Int)) = c - (f.name.size : Int) := by rw [IntKind.wrap_i64]; omega
    rw [if_pos (by omega)]
    go_enter Try.func71, Try.ntmps71
    go_wp2_with fail
    go_ret
    exact ⟨rfl, A0⟩
  · have h3 : ¬ c - (f.name.size : Int) < 0 := by omega
    have hw1 : IntKind.i64.wrap (c - (f.name.size : Int)) = c - (f.name.size : Int) := by rw [IntKind.wrap_i64]; omega
    by_cases h2 : c - (f.name.size : Int) < (f.v.t.size : Int)
    · rw [if_pos (by omega)]
      go_enter Try.func71, Try.ntmps71
      go_wp2_with fail
      refine (szValue_any _ _ _ (c - (f.name.size : Int)) _ hs (by omega) (by omega)).mono ?_
      rintro e w1 ⟨rfl, hb⟩
      rw [if_pos (by omega)]
      go_wp2_with fail
      go_ret
      exact ⟨rfl, A0.trans (hb.mono A0.size)⟩
    · have h4 : ¬ c - (f.name.size : Int) - (f.v.t.size : Int) < 0 := by omega
      rw [if_neg (by omega)]
      go_enter Try.func71, Try.ntmps71
      go_wp2_with fail
      refine (szValue_any _ _ _ (c - (f.name.size : Int)) _ hs (by omega) (by omega)).mono ?_
      rintro e w1 ⟨rfl, hb⟩
      rw [if_neg (by omega)]
      go_wp2_with fail
      go_ret
      exact ⟨rfl, A0.trans (hb.mono A0.size)⟩

set_option maxRecDepth 4000 in
set_option maxHeartbeats 1000000 in
theorem szFieldS_any (a : Option Addr) (cap : Nat) (l : List Fld) (w : World) (hin : InF w a l) (hl : l.length ≤ maxLen) (hs : ∀ f ∈ l, f.name.size ≤ maxLen ∧ f.v.t.size ≤ maxLen) :
    Calls Try.prog 26 #[.slice a l.length cap, .int .i64 1048576] w fun e w' => (∃ r : Int, e = .returned (.int .i64 r) ∧ (r < 0 ∨ (0 ≤ r ∧ l.length ≤ 1048576 ∧ ∀ f ∈ l, f.name.size ≤ 1048576 ∧ f.v.t.size ≤ 1048576))) ∧ Below w.heap.size w w' := by
  unfold maxLen at hl
  have HI : Hid _ := hin
  have HS : Hid _ := hs
  clear hin hs
  by_cases hbig : (1048576 : Int) < (l.length : Int)
  · go_enter Try.func26, Try.ntmps26
    go_wp2_with fail
    go_ret
    exact ⟨⟨-1, rfl, .inl (by omega)⟩, Below.refl _ _⟩
  · go_enter Try.func26, Try.ntmps26
    go_wp2_with fail
    go_loopw [1, 5] (fun u i wr => ∃ k : Nat, k ≤ l.length ∧ i = .int .i64 k ∧ ∃ c : Int, u = .int .i64 c ∧ 0 ≤ c ∧ c ≤ 1048576 ∧ (∀ f ∈ l.take k, f.name.size ≤ 1048576 ∧ f.v.t.size ≤ 1048576) ∧ Below w.heap.size w wr) (fun _ i _ => l.length - (intOf i).toNat)
    case atStart => exact ⟨0, Nat.zero_le _, rfl, _, rfl, by omega, by omega, fun v hv => by simp at hv, Below.refl _ _⟩
    case round =>
      obtain ⟨k, hk, rfl, c, rfl, hc0, hc1, hall, hbel⟩ := hrel
      have HA : Hid _ := hall
      clear hall
      by_cases hlt : k < l.length
      · rcases HI.out with h0 | ⟨b, off, rfl, hbl, hcell⟩
        · omega
        · have x0 := (hbel.cell hbl).trans (hcell k hlt).1
          have x1 := (hbel.cell hbl).trans (hcell k hlt).2.1
          have x2 := (hbel.cell hbl).trans (hcell k hlt).2.2.1
          have x3 := (hbel.cell hbl).trans (hcell k hlt).2.2.2
          have hsz := HS.out l[k] (List.getElem_mem _)
          clear hcell
          by_cases hover : c < (l[k].name.size : Int) + (l[k].v.t.size : Int)
          · go_wp2_with fail
            refine (szField_any l[k] c _ hsz.1 hsz.2 hc0 hc1).mono ?_
            rintro e w1 ⟨rfl, hb⟩
            rw [if_pos (by omega)]
            go_wp2_with fail
            go_ret
            exact ⟨⟨-1, rfl, .inl (by omega)⟩, hbel.trans (hb.mono hbel.size)⟩
          · have hpos : ¬ (c - (l[k].name.size : Int) - (l[k].v.t.size : Int) < 0) := by omega
            go_wp2_with fail
            refine (szField_any l[k] c _ hsz.1 hsz.2 hc0 hc1).mono ?_
            rintro e w1 ⟨rfl, hb⟩
            rw [if_neg (by omega)]
            go_wp2_with fail
            go_roundw
            case rel => exact ⟨k + 1, by omega, by go_num, c - l[k].name.size - l[k].v.t.size, rfl, by omega, by omega, take_allF _ l k hlt HA.out ⟨by omega, by omega⟩, hbel.trans (hb.mono hbel.size)⟩
            case measure => simp [intOf]; omega
      · go_wp2_with fail
        go_ret
        exact ⟨⟨c, rfl, .inr ⟨hc0, by omega, by have := HA.out; rw [List.take_of_length_le (by omega)] at this; exact this⟩⟩, hbel⟩

def zfld : Fld := ⟨em, zv⟩
/-- The first k fields, and zero ones behind them. -/
def mixF (l : List Fld) (k : Nat) : List Fld := l.take k ++ List.replicate (l.length - k) zfld
theorem mixF_len (l : List Fld) (k : Nat) (h : k ≤ l.length) : (mixF l k).length = l.length := by unfold mixF; simp; omega
theorem mixF_full (l : List Fld) (k : Nat) (h : l.length ≤ k) : mixF l k = l := by
  unfold mixF; rw [List.take_of_length_le h, Nat.sub_eq_zero_of_le h]; simp
theorem mixF_set (l : List Fld) (k : Nat) (h : k < l.length) : (mixF l k).set k l[k] = mixF l (k + 1) := by
  unfold mixF
  have hl : (l.take k).length = k := by simp; omega
  rw [List.take_succ_eq_append_getElem h, List.append_assoc, List.set_append_right _ _ (by omega)]
  congr 1
  rw [hl, Nat.sub_self]
  obtain ⟨m, hm⟩ : ∃ m, l.length - k = m + 1 := ⟨l.length - k - 1, by omega⟩
  rw [hm, List.replicate_succ, show l.length - (k + 1) = m by omega]
  rfl
theorem made_zeroF (n : Nat) : (madeCells (Value.agg #[.string em, .int .i64 0, .int .i64 0, .string em]).cells (n * 4)).toList = flatF (List.replicate n zfld) := by
  apply List.ext_getElem?
  intro j
  by_cases hj : j < n * 4
  · have hg := flatF_get (List.replicate n zfld) (j / 4) (by simp; omega)
    simp only [List.getElem_replicate] at hg
    have hc : (Value.agg #[.string em, .int .i64 0, .int .i64 0, .string em]).cells = #[.string em, .int .i64 0, .int .i64 0, .string em] := by rfl
    rw [hc]
    have h3 : j % 4 = 0 ∨ j % 4 = 1 ∨ j % 4 = 2 ∨ j % 4 = 3 := by omega
    rcases h3 with h3 | h3 | h3 | h3
    · have e : j = j / 4 * 4 := by omega
      rw [show (flatF (List.replicate n zfld))[j]? = (flatF (List.replicate n zfld))[j / 4 * 4]? by rw [← e], hg.1]
      simp [madeCells, hj, h3, zfld]
    · have e : j = j / 4 * 4 + 1 := by omega
      rw [show (flatF (List.replicate n zfld))[j]? = (flatF (List.replicate n zfld))[j / 4 * 4 + 1]? by rw [← e], hg.2.1]
      simp [madeCells, hj, h3, zfld, zv]
    · have e : j = j / 4 * 4 + 2 := by omega
      rw [show (flatF (List.replicate n zfld))[j]? = (flatF (List.replicate n zfld))[j / 4 * 4 + 2]? by rw [← e], hg.2.2.1]
      simp [madeCells, hj, h3, zfld, zv]
    · have e : j = j / 4 * 4 + 3 := by omega
      rw [show (flatF (List.replicate n zfld))[j]? = (flatF (List.replicate n zfld))[j / 4 * 4 + 3]? by rw [← e], hg.2.2.2]
      simp [madeCells, hj, h3, zfld, zv]
  · rw [List.getElem?_eq_none (by simp [madeCells]; omega), List.getElem?_eq_none (by rw [flatF_len]; simp; omega)]

end Go.Proofs.Ytejphhhmblpapaa

/- A row of values that comes in, opened: each of its values, at its place. -/
namespace Go.Proofs.Ytejphhhmblpapaa
open Go.RowKit Go.Joins Go.Deep
set_option linter.unusedVariables false

instance : Inhabited Val := ⟨zv⟩
theorem cellsLV : Try.prog.cellsOf 55 = 3 := by kernel_rfl
theorem cellsI : Try.prog.cellsOf 3 = 1 := by kernel_rfl
theorem cellsT : Try.prog.cellsOf 9 = 1 := by kernel_rfl
theorem add_plain (b off i : Nat) : (⟨b, off, none⟩ : Addr).add i = ⟨b, off + i, none⟩ := by unfold Addr.add; split <;> simp_all
end Go.Proofs.Ytejphhhmblpapaa

/- The laws' copies of rows of fields that come in, and such a row opened. -/
namespace Go.Proofs.Ytejphhhmblpapaa
open Go.RowKit
set_option linter.unusedVariables false

theorem bcellF {W W' : World} (hb : Below W.heap.size W W') : (∀ b j, b < W.heap.size → W'.cell? ⟨b, j, none⟩ = W.cell? ⟨b, j, none⟩) ∧ (∀ b j, b < W.heap.size → W'.frozen? ⟨b, j, none⟩ = W.frozen? ⟨b, j, none⟩) :=
  ⟨fun b j h => hb.cell (p := ⟨b, j, none⟩) h, fun b j h => hb.frozen (p := ⟨b, j, none⟩) h⟩
set_option maxRecDepth 4000 in
set_option maxHeartbeats 1000000 in
theorem toField_any (f : Fld) (w : World) :
    Calls Try.prog 72 #[aggF f] w fun e w' => e = .returned (aggF f) ∧ Below w.heap.size w w' := by
  go_enter Try.func72, Try.ntmps72
  go_wp2_with fail
  refine (toValue_any _ _ _ _).mono ?_
  rintro e w1 ⟨rfl, hb⟩
  obtain ⟨hc, hf⟩ := bcellF hb
  have hz : w.heap.size + 2 < w1.heap.size := by have := hb.size; simp at this; omega
  have hbw : Below w.heap.size w w1 := ((((Below.refl _ _).alloc (Nat.le_refl _) _).alloc (by simp) _).alloc (by simp; omega) _).trans (hb.mono (by simp; omega))
  clear hb
  go_wp2_with fail
  refine bodyPost_ret (v := aggF f) (by simp [results, Try.results72, go_sem, *]) rfl ⟨rfl, ?_⟩
  (repeat (first | (with_reducible exact Below.refl _ _) | (with_reducible assumption) | (with_reducible apply below_drewN) | (with_reducible apply Below.drew) | ((with_reducible refine Below.setCell ?_ ?_ _); rotate_left; focus (first | (simp; done) | (simp; omega) | omega)) | ((with_reducible refine Below.alloc ?_ ?_ _); rotate_left; focus (first | (simp; done) | (simp; omega) | omega))))

set_option maxRecDepth 4000 in
set_option maxHeartbeats 1000000 in
theorem toFieldS_any (a : Option Addr) (cap : Nat) (l : List Fld) (w : World) (hin : InF w a l) (hlen : l.length ≤ 1048576) :
    Calls Try.prog 27 #[.slice a l.length cap] w fun e w' => (∃ g, e = .returned (.slice (some ⟨g, 0, none⟩) l.length l.length) ∧ w.heap.size ≤ g ∧ ReadF w' g l) ∧ Below w.heap.size w w' := by
  obtain ⟨i0, hi, hz0, hz1, hz2⟩ := info_parts infoF
  have HI : Hid _ := hin
  clear hin
  go_enter Try.func27, Try.ntmps27
  go_wp2_with (refine wpList_make_full _ rfl (.tmp 6) (.tmp 6) 33 rfl w.heap.size 36 i0 (.agg #[.string em, .int .i64 0, .int .i64 0, .string em]) 4 Try.underlying33 hi hz0 hz1 .i64 .i64 _ _ l.length rfl rfl rfl rfl (by rw [hz2]; omega) (by unfold maxLen; omega) (Nat.le_refl _) ?_; intro w1 hown1 hgrow1)
  have hb1 : Below w.heap.size w w1 := Below.grown (Below.refl _ _) hgrow1 (Nat.le_refl _) (fun k h => by cases h)
  have hz : w.heap.size < w1.heap.size := (World.ownsRow.lt hown1 w.heap.size rfl).2
  rw [made_zeroF, show List.replicate l.length zfld = mixF l 0 from by simp [mixF]] at hown1
  clear hgrow1
  go_loopw [4] (fun i wr => ∃ k : Nat, k ≤ l.length ∧ i = .int .i64 k ∧ wr.ownsRow w.heap.size 36 4 (.slice (some ⟨w.heap.size, 0, none⟩) l.length l.length) l.length (flatF (mixF l k)) ∧ Below w.heap.size w wr) (fun i _ => l.length - (intOf i).toNat)
  case atStart => exact ⟨0, Nat.zero_le _, rfl, hown1, hb1⟩
  case round =>
    obtain ⟨k, hk, rfl, hown, hbel⟩ := hrel
    clear hown1 hb1 hz
    by_cases hlt : k < l.length
    · rcases HI.out with h0 | ⟨b, off, rfl, hbl, hc⟩
      · omega
      · have x0 := (hbel.cell hbl).trans (hc k hlt).1
        have x1 := (hbel.cell hbl).trans (hc k hlt).2.1
        have x2 := (hbel.cell hbl).trans (hc k hlt).2.2.1
        have x3 := (hbel.cell hbl).trans (hc k hlt).2.2.2
        have hz := hbel.size
        have HO : Hid _ := hown
        have HB : Hid _ := hbel
        have hgl : w.heap.size < wr.heap.size := (hown.lt _ rfl).2
        clear hc hown hbel
        go_wp2_with fail
        refine (toField_any l[k] _).mono ?_
        rintro e w2 ⟨rfl, hb2⟩
        have hown2 := owns_below HO.out hb2
        have hm := mixF_len l k hk
        have hg := flatF_get (mixF l k) k (by omega)
        obtain ⟨z0, y0⟩ : ∃ u, w2.cell? ⟨w.heap.size, k * 4, none⟩ = some u := ⟨_, owns_cell hown2 _ _ hg.1⟩
        obtain ⟨z1, y1⟩ : ∃ u, w2.cell? ⟨w.heap.size, k * 4 + 1, none⟩ = some u := ⟨_, owns_cell hown2 _ _ hg.2.1⟩
        obtain ⟨z2, y2⟩ : ∃ u, w2.cell? ⟨w.heap.size, k * 4 + 2, none⟩ = some u := ⟨_, owns_cell hown2 _ _ hg.2.2.1⟩
        obtain ⟨z3, y3⟩ : ∃ u, w2.cell? ⟨w.heap.size, k * 4 + 3, none⟩ = some u := ⟨_, owns_cell hown2 _ _ hg.2.2.2⟩
        have f0 := World.ownsRow.frozenAt hown2 (k * 4)
        have f1 := World.ownsRow.frozenAt hown2 (k * 4 + 1)
        have f2 := World.ownsRow.frozenAt hown2 (k * 4 + 2)
        have f3 := World.ownsRow.frozenAt hown2 (k * 4 + 3)
        have hst := (World.ownsRow.stored ((World.ownsRow.stored ((World.ownsRow.stored ((World.ownsRow.stored hown2 (k * 4) (.string l[k].name)).1) (k * 4 + 1) (.int .i64 l[k].v.k)).1) (k * 4 + 2) (.int .i64 l[k].v.n)).1) (k * 4 + 3) (.string l[k].v.t)).1
        rw [flatF_set _ _ _ (by omega), mixF_set l k hlt] at hst
        have HS : Hid _ := hst
        have HB2 : Hid _ := HB.out.trans (hb2.mono HB.out.size)
        have hz2 := hb2.size
        clear hst hown2 hg hm hb2
        go_wp2_with fail
        go_roundw
        case rel => exact ⟨k + 1, by omega, by go_num, HS.out, (((HB2.out.setCell (Nat.le_refl _) _).setCell (Nat.le_refl _) _).setCell (Nat.le_refl _) _).setCell (Nat.le_refl _) _⟩
        case measure => simp [intOf]; omega
    · go_wp2_with fail
      go_ret
      rw [mixF_full l k (by omega)] at hown
      exact ⟨⟨w.heap.size, rfl, Nat.le_refl _, ReadF.of_own hown⟩, hbel⟩

section
open Go.Joins Go.Deep Go.ChangeShapes Go.WideShapes Go.ChangeAt
instance : Inhabited Fld := ⟨zfld⟩
theorem cellsLF : Try.prog.cellsOf 100 = 4 := by kernel_rfl
theorem open_field_cells {H : Type} {enc : TypeId × Value → H} {w : World} {base : Nat} {spare : Nat → Bool} {held : Bool} {fuel : Nat} {c0 c1 c2 c3 : Value} {x : DataW H × List MemPlace}
    (h : DataW.trod enc Try.prog w base spare held fuel 100 [c0, c1, c2, c3] = some x) :
    ∃ (p : ByteArray) (k n : Int) (t : ByteArray), c0 = .string p ∧ c1 = .int .i64 k ∧ c2 = .int .i64 n ∧ c3 = .string t ∧ p.size ≤ maxLen ∧ t.size ≤ maxLen := by
  obtain ⟨y0, y1, m, _, _, t0, t1⟩ := trod_struct2 Try.underlying100 h
  obtain ⟨z1, e1, _, hp⟩ := DataW.trod_string Try.underlying9 t0
  obtain ⟨u0, u1, u2, m2, _, _, s0, s1, s2⟩ := trod_struct3 Try.underlying55 t1
  obtain ⟨z2, e2, _, _⟩ := DataW.trod_int Try.underlying3 s0
  obtain ⟨z3, e3, _, _⟩ := DataW.trod_int Try.underlying3 s1
  obtain ⟨z4, e4, _, ht⟩ := DataW.trod_string Try.underlying9 s2
  simp [cellsI, cellsT, cellsLV] at e1 e2 e3 e4
  exact ⟨z1, z2, z3, z4, e1, e2, e3, e4, hp, ht⟩
theorem open_flds {H : Type} {enc : TypeId × Value → H} {w : World} {base : Nat} {spare : Nat → Bool} {held : Bool} {fuel : Nat} {cs : List Value} {x : DataW H × List MemPlace}
    (h : DataW.trod enc Try.prog w base spare held fuel 49 cs = some x) :
    ∃ (a : Option Addr) (len cap : Nat) (l : List Fld), cs = [.slice a len cap] ∧ l.length = len ∧ l.length ≤ maxLen ∧ (∀ f ∈ l, f.name.size ≤ maxLen ∧ f.v.t.size ≤ maxLen) ∧ InF w a l := by
  rcases open_slice Try.underlying49 h with ⟨rfl, _⟩ | ⟨a, len, cap, m, n, D, Pl, rfl, hb, hl, hm, hmm, _, hx⟩
  · exact ⟨none, 0, 0, [], rfl, rfl, Nat.zero_le _, (fun v hv => by simp at hv), .inl rfl⟩
  · have hlm : len ≤ m := by rw [hmm]; split <;> omega
    rw [cellsLF] at hx
    obtain ⟨f, hf⟩ := choose_lt (α := Fld) (n := len) (p := fun i v => w.cell? (a.add (i * 4)) = some (.string v.name) ∧ w.cell? ((a.add (i * 4)).add 1) = some (.int .i64 v.v.k) ∧ w.cell? ((a.add (i * 4)).add 2) = some (.int .i64 v.v.n) ∧ w.cell? ((a.add (i * 4)).add 3) = some (.string v.v.t) ∧ v.name.size ≤ maxLen ∧ v.v.t.size ≤ maxLen) (fun i hi => by
      obtain ⟨cs', h1, h2⟩ := hx i (by omega)
      obtain ⟨_, hlen, hc⟩ := World.cells?_some h1
      match cs', hlen with
      | [c0, c1, c2, c3], _ =>
        obtain ⟨p, k, n, t, rfl, rfl, rfl, rfl, hp, ht⟩ := open_field_cells h2
        refine ⟨⟨p, ⟨k, n, t⟩⟩, ?_, ?_, ?_, ?_, hp, ht⟩
        · have := hc 0 (by omega); simpa [Addr.add] using this
        · exact hc 1 (by omega)
        · exact hc 2 (by omega)
        · exact hc 3 (by omega))
    refine ⟨some a, len, cap, (List.range len).map f, rfl, by simp, by simp; omega, ?_, ?_⟩
    · intro v hv
      obtain ⟨i, hi, rfl⟩ := List.mem_map.mp hv
      exact (hf i (by simpa using hi)).2.2.2.2
    · by_cases h0 : len = 0
      · exact .inl (by simp [h0])
      · obtain ⟨b, off, spot⟩ := a
        have hc0 := (hf 0 (by omega)).1
        have hspot : spot = none := by simpa [Addr.add] using World.cell?_spot hc0
        subst hspot
        have hlt : b < w.heap.size := by
          rcases Nat.lt_or_ge b w.heap.size with h | h
          · exact h
          · simp [World.cell?, Addr.add, Array.getElem?_eq_none h] at hc0
        refine .inr ⟨b, off, rfl, hlt, fun i hi => ?_⟩
        have hi2 : i < len := by simpa using hi
        have := hf i hi2
        simp only [add_plain] at this
        simp only [List.getElem_map, List.getElem_range]
        exact ⟨this.1, this.2.1, this.2.2.1, this.2.2.2.1⟩
end

end Go.Proofs.Ytejphhhmblpapaa

/- The two functions that make documents, side by side. -/
namespace Go.Proofs.Ytejphhhmblpapaa
open Go.RowKit

theorem specDoc_any (g cap : Nat) (l : List Fld) (w : World) (hr : ReadF w g l) (hl : l.length ≤ 1048576) (hts : ∀ f ∈ l, f.name.size ≤ 1048576 ∧ f.v.t.size ≤ 1048576) :
    Calls Try.prog 18 #[.slice (some ⟨g, 0, none⟩) l.length cap] w fun e w' => e = .returned (.tuple #[aggV (madeP l).1, .int .i64 (madeP l).2]) ∧ Below w.heap.size w w' := by
  by_cases h : 4096 < l.length
  · rw [madeP_long l h]; exact specDoc_long g cap l w hl h
  · by_cases h2 : 300 < l.length
    · rw [madeP_many l h h2]; exact specDoc_many g cap l w h h2
    · rw [madeP_few l h2]; exact specDoc_few g cap l w hr h2 hts

end Go.Proofs.Ytejphhhmblpapaa
