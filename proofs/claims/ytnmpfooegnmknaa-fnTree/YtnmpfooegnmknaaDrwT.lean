/- The specification's drawn entries and trees: what they are. -/
import Derived.Test.YtnmpfooegnmknaaDrwB
import Derived.Test.YtnmpfooegnmknaaDrwM
import Derived.Test.YtnmpfooegnmknaaPutT
import Derived.Test.YtnmpfooegnmknaaTrZ
namespace Go.Proofs.Ytnmpfooegnmknaa.Tr
open Go.RowKit
set_option linter.unusedVariables false

theorem grown_up {w W W' : World} {g : Nat} {row : Option Nat} (h : w.grownBy W (some g)) (k : W.grownBy W' row) (hr : ∀ j, row = some j → w.heap.size ≤ j) : w.grownBy W' (some g) := h.andThen k (fun j hj => .inl (hr j hj))
theorem SrcAt.below {W W' : World} {g : Nat} {x : Option Addr} {cap : Nat} {zs : List Int} {a : Nat} (h : SrcAt W g x cap zs a) (hb : Below W.heap.size W W') : SrcAt W' g x cap zs a :=
  h.next (hb.block _ h.lt) (h.code.next (grown_below hb))
theorem Drew.below {w W W' : World} {g : Nat} {x : Option Addr} {cap : Nat} {zs : List Int} {a : Nat} (h : Drew w g x cap zs a W) (hb : Below W.heap.size W W') : Drew w g x cap zs a W' :=
  ⟨grown_up h.1 (grown_below (row := none) hb) (fun j hj => by cases hj), h.2.below hb⟩
theorem Drew.more {w W : World} {g : Nat} {x : Option Addr} {cap : Nat} {zs : List Int} {a b : Nat} (h : Drew w g x cap zs a W) (hab : a ≤ b) : Drew w g x cap zs b W := ⟨h.1, h.2.mono hab⟩
theorem Drew.setB {w W : World} {g : Nat} {x : Option Addr} {cap : Nat} {zs : List Int} {a b o : Nat} {v : Value} (hc : CodeAt w g x zs) (h : Drew w g x cap zs a W) (hg : g < w.heap.size) (hb : w.heap.size ≤ b) : Drew w g x cap zs a (W.setCell ⟨b, o, none⟩ v) := by
  have h1 : w.grownBy (W.setCell ⟨b, o, none⟩ v) (some g) := grown_up h.1 grown_set (fun j hj => by injection hj with hj; omega)
  obtain ⟨p, s, e1, e2, e3⟩ := h.2.block
  exact ⟨h1, ⟨⟨p, s, e1, e2, (grown_set.block g h.2.lt (fun e => by injection e with e; omega)).trans e3⟩, hc.next h1⟩⟩
theorem two_cells {W : World} {b : Nat} {T : TypeId} {v0 v1 : Value} (h : W.heap[b]? = some (.cells #[v0, v1] T)) : W.cell? ⟨b, 0, none⟩ = some v0 ∧ W.cell? ⟨b, 1, none⟩ = some v1 ∧ W.frozen? ⟨b, 0, none⟩ = false ∧ W.frozen? ⟨b, 1, none⟩ = false := by
  refine ⟨?_, ?_, ?_, ?_⟩ <;> simp [World.cell?, World.frozen?, h]
/-- Pages lie on where a block changes that holds neither pages nor entries. -/
theorem FullP.off {w w' : World} {g gp : Nat} {f : List Pg} (h : FullP w gp f) (h0 : ∀ n, w.cell? ⟨g, 0, none⟩ ≠ some (.int .i64 n)) (h1 : ∀ o s, w.cell? ⟨g, o, none⟩ ≠ some (.string s)) (hne : 0 < f.length) (hg : w.grownBy w' (some g)) : FullP w' gp f := by
  have hgp : gp ≠ g := by
    obtain ⟨q, c, hp⟩ := h.pages 0 hne
    have := hp.num
    intro e; subst e
    exact h0 _ (by simpa using this)
  have hc : ∀ b, b < w.heap.size → b ≠ g → ∀ o, w'.cell? ⟨b, o, none⟩ = w.cell? ⟨b, o, none⟩ := fun b hb hn o => World.cell?_of_block (hg.block b hb (fun e => hn (Option.some.inj e)))
  refine ⟨Nat.lt_of_lt_of_le h.lt hg.size, fun i hi => ?_⟩
  obtain ⟨q, c, hp⟩ := h.pages i hi
  refine ⟨q, c, Nat.lt_of_lt_of_le hp.lt hg.size, (hc gp hp.lt hgp _).trans hp.num, (hc gp hp.lt hgp _).trans hp.row, hp.cap, ?_, hp.form.imp id fun ⟨b', o', h3, h4⟩ => ⟨b', o', h3, Nat.lt_of_lt_of_le h4 hg.size⟩⟩
  rcases hp.ents with h0 | ⟨b, off, ha, hlt, hcell⟩
  · exact .inl h0
  · by_cases hz : f[i].es.length = 0
    · exact .inl hz
    · have hbg : b ≠ g := by
        intro e; subst e
        exact h1 _ _ (hcell 0 (by omega)).1
      exact .inr ⟨b, off, ha, Nat.lt_of_lt_of_le hlt hg.size, fun j hj => ⟨(hc b hlt hbg _).trans (hcell j hj).1, (hc b hlt hbg _).trans (hcell j hj).2⟩⟩
theorem src_not {w : World} {g : Nat} {x : Option Addr} {cap : Nat} {zs : List Int} {a : Nat} (h : SrcAt w g x cap zs a) : (∀ n, w.cell? ⟨g, 0, none⟩ ≠ some (.int .i64 n)) ∧ (∀ o s, w.cell? ⟨g, o, none⟩ ≠ some (.string s)) := by
  obtain ⟨k, s, _, _, hh⟩ := h.block
  refine ⟨fun n e => ?_, fun o t e => ?_⟩
  · simp [World.cell?, hh] at e
  · match o, e with
    | 0, e => simp [World.cell?, hh] at e
    | 1, e => simp [World.cell?, hh] at e
    | 2, e => simp [World.cell?, hh] at e
    | o + 3, e => simp [World.cell?, hh] at e
theorem two_not {w : World} {b : Nat} {T : TypeId} {p : Option Addr} {n c : Nat} {v : Int} (hh : w.heap[b]? = some (.cells #[.slice p n c, .int .i64 v] T)) : (∀ n, w.cell? ⟨b, 0, none⟩ ≠ some (.int .i64 n)) ∧ (∀ o s, w.cell? ⟨b, o, none⟩ ≠ some (.string s)) := by
  refine ⟨fun n e => ?_, fun o t e => ?_⟩
  · simp [World.cell?, hh] at e
  · match o, e with
    | 0, e => simp [World.cell?, hh] at e
    | 1, e => simp [World.cell?, hh] at e
    | o + 2, e => simp [World.cell?, hh] at e

/-- A drawn entry. -/
structure EntD (e : Ent) : Prop where
  key : e.key.size ≤ 2
  id0 : 0 ≤ e.id
  id4 : e.id < 4
theorem EntD.right {e : Ent} (h : EntD e) : entB e = true := by
  unfold entB; rw [decide_eq_true (by have := h.key; omega), decide_eq_true h.id0, decide_eq_true (by have := h.id4; omega)]; rfl
def keysD : List ByteArray := [⟨#[97]⟩, ⟨#[98]⟩, ⟨#[99]⟩, ⟨#[97, 97]⟩, ⟨#[]⟩, ⟨#[100]⟩, ⟨#[101]⟩]
theorem keysD_size : ∀ t ∈ keysD, t.size ≤ 2 := by
  intro t ht
  simp only [keysD, List.mem_cons, List.not_mem_nil, or_false] at ht
  rcases ht with rfl | rfl | rfl | rfl | rfl | rfl | rfl <;> decide

set_option maxRecDepth 4000 in
set_option maxHeartbeats 1000000 in
theorem drawEntry_any (g : Nat) (x : Option Addr) (cap : Nat) (zs : List Int) (a : Nat) (w : World) (h : SrcAt w g x cap zs a) (ha : a + 2 ≤ 1000000) :
    Calls Try.prog 45 #[.pointer (some ⟨g, 0, none⟩)] w fun e' w' => (∃ e : Ent, e' = .returned (.agg #[.string e.key, .int .i64 e.id]) ∧ EntD e) ∧ Drew w g x cap zs (a + 2) w' := by
  obtain ⟨W0, hW0⟩ : ∃ W, W = (w.alloc (.cells #[.string em, .int .i64 0] 40)).alloc (.cells #[.string ⟨#[97]⟩, .string ⟨#[98]⟩, .string ⟨#[99]⟩, .string ⟨#[97, 97]⟩, .string ⟨#[]⟩, .string ⟨#[100]⟩, .string ⟨#[101]⟩] 9) := ⟨_, rfl⟩
  have hb : Below w.heap.size w W0 := by rw [hW0]; exact ((Below.refl _ _).alloc (Nat.le_refl _) _).alloc (by simp) _
  have hz0 : W0.heap.size = w.heap.size + 2 := by rw [hW0]; simp
  have hblk : W0.heap[w.heap.size]? = some (.cells #[.string em, .int .i64 0] 40) := by
    rw [hW0]
    have b3 : Below (w.alloc (.cells #[.string em, .int .i64 0] 40)).heap.size (w.alloc (.cells #[.string em, .int .i64 0] 40)) ((w.alloc (.cells #[.string em, .int .i64 0] 40)).alloc (.cells #[.string ⟨#[97]⟩, .string ⟨#[98]⟩, .string ⟨#[99]⟩, .string ⟨#[97, 97]⟩, .string ⟨#[]⟩, .string ⟨#[100]⟩, .string ⟨#[101]⟩] 9)) := (Below.refl _ _).alloc (Nat.le_refl _) _
    exact (b3.block _ (by simp)).trans (heap_alloc_new w _)
  have hrow : W0.heap[w.heap.size + 1]? = some (.cells #[.string ⟨#[97]⟩, .string ⟨#[98]⟩, .string ⟨#[99]⟩, .string ⟨#[97, 97]⟩, .string ⟨#[]⟩, .string ⟨#[100]⟩, .string ⟨#[101]⟩] 9) := by
    rw [hW0]
    have := heap_alloc_new (w.alloc (.cells #[.string em, .int .i64 0] 40)) (.cells #[.string ⟨#[97]⟩, .string ⟨#[98]⟩, .string ⟨#[99]⟩, .string ⟨#[97, 97]⟩, .string ⟨#[]⟩, .string ⟨#[100]⟩, .string ⟨#[101]⟩] 9)
    simpa using this
  have hl := h.lt
  have HP : Hid (Calls _ _ _ _ _) := pick_any g x cap zs a (w.heap.size + 1) 7 keysD W0 (h.below hb) (by omega) (by decide) (by decide) (by omega) (by
    intro i hi
    have hi7 : i < 7 := hi
    match i, hi7 with
    | 0, _ => simp [World.cell?, hrow, keysD]
    | 1, _ => simp [World.cell?, hrow, keysD]
    | 2, _ => simp [World.cell?, hrow, keysD]
    | 3, _ => simp [World.cell?, hrow, keysD]
    | 4, _ => simp [World.cell?, hrow, keysD]
    | 5, _ => simp [World.cell?, hrow, keysD]
    | 6, _ => simp [World.cell?, hrow, keysD])
  have HC : Hid (CodeAt _ _ _ _) := h.code
  have HB : Hid (Below _ _ _) := hb
  have HS : Hid (SrcAt _ _ _ _ _ _) := h
  have hkl : keysD.length = 7 := rfl
  rw [hkl] at HP
  have HBLK : Hid (W0.heap[w.heap.size]? = _) := hblk
  have hW1 : (w.alloc (.cells #[.string em, .int .i64 0] 40)).alloc (.cells #[.string ⟨#[97]⟩, .string ⟨#[98]⟩, .string ⟨#[99]⟩, .string ⟨#[97, 97]⟩, .string ⟨#[]⟩, .string ⟨#[100]⟩, .string ⟨#[101]⟩] 9) = W0 := hW0.symm
  have HW : Hid (_ = W0) := hW1
  clear h hb hrow hblk hW0 hkl hW1
  go_enter Try.func45, Try.ntmps45
  go_wp2_with fail
  rw [HW.out]
  refine HP.out.mono ?_
  rintro e' w1 ⟨⟨t, ht, rfl⟩, hd⟩
  have HK : Hid _ := keysD_size t ht
  have HN : Hid (Calls _ _ _ _ _) := next_any g x cap zs (a + 1) 4 w1 hd.2 (by omega) (by omega) (by omega)
  have HD : Hid (Drew _ _ _ _ _ _ _) := hd
  clear hd ht HP
  go_wp2_with fail
  refine HN.out.mono ?_
  rintro e' w2 ⟨⟨z, rfl, hz⟩, hd⟩
  have hD2 : Drew W0 g x cap zs (a + 2) w2 := HD.out.trans hd
  have hblk2 : w2.heap[w.heap.size]? = some (.cells #[.string em, .int .i64 0] 40) := (hD2.1.block _ (by omega) (fun e => by injection e with e; omega)).trans HBLK.out
  obtain ⟨c0, c1, z0, z1⟩ := two_cells hblk2
  have hDw : Drew w g x cap zs (a + 2) w2 := ⟨by
    have h1 : w.grownBy W0 (some g) := grown_below HB.out
    exact h1.trans hD2.1, hD2.2⟩
  have HDW : Hid (Drew _ _ _ _ _ _ _) := hDw
  have hsz : w.heap.size < w2.heap.size := by have := hD2.1.size; omega
  clear hd hD2 hblk2 hDw HN HD
  go_wp2_with fail
  refine bodyPost_ret (v := .agg #[.string t, .int .i64 z]) (by simp [results, Try.results45, go_sem, *]) rfl ⟨⟨⟨t, z⟩, rfl, ⟨HK.out, by simp, by simp; omega⟩⟩, ?_⟩
  exact (Drew.setB HC.out (Drew.setB HC.out HDW.out hl (Nat.le_refl _)) hl (Nat.le_refl _))

theorem specDrop_row (p : Option Addr) (cap : Nat) (f : List Pg) (next : Int) (e : Ent) (w : World) (hF : RowF w p f) (hT : treeB f next = true) (hE : entB e = true) :
    Calls Try.prog 93 #[.agg #[.slice p f.length cap, .int .i64 next], .agg #[.string e.key, .int .i64 e.id]] w fun e' w' => (∃ p' cap' f' code, e' = .returned (.tuple #[.agg #[.slice p' f'.length cap', .int .i64 next], .int .i64 code]) ∧ RowF w' p' f' ∧ DropR f next e f' next code) ∧ Below w.heap.size w w' := by
  refine (specDrop_at p cap f next e w hF.rowP hT hE (fun g' pa ca i hp hi hc => ?_)).mono ?_
  · obtain ⟨g, rfl, hF⟩ := hF
    cases hp
    obtain ⟨q, c, hP⟩ := hF.pages i hi
    rw [hP.row] at hc
    injection hc with hc; injection hc with _ _ hc
    rw [← hc]; exact hP.cap
  · rintro e' w' ⟨⟨p', cap', f', code, he, _, hRF, hD⟩, hb⟩
    exact ⟨⟨p', cap', f', code, he, hRF hF, hD⟩, hb⟩
theorem specPut_row (p : Option Addr) (cap : Nat) (f : List Pg) (next : Int) (e : Ent) (w : World) (hF : RowF w p f) (hT : treeB f next = true) (hE : entB e = true) :
    Calls Try.prog 52 #[.agg #[.slice p f.length cap, .int .i64 next], .agg #[.string e.key, .int .i64 e.id]] w fun e' w' => (∃ p' cap' f' n num code, e' = .returned (.tuple #[.agg #[.slice p' f'.length cap', .int .i64 n], .int .i64 num, .int .i64 code]) ∧ RowF w' p' f' ∧ PutR f next e f' n num code) ∧ Below w.heap.size w w' := by
  obtain ⟨g, rfl, hF⟩ := hF
  exact specPut_at g cap f next e w hF hT hE
end Go.Proofs.Ytnmpfooegnmknaa.Tr
