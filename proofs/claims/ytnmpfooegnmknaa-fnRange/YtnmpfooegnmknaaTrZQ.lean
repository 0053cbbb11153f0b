/- A new tree: what the program and the specification answer. -/
import Derived.Test.YtnmpfooegnmknaaTrNQ
import Derived.Test.YtnmpfooegnmknaaDrwB
import Derived.Test.YtnmpfooegnmknaaDrwM
import Derived.Test.YtnmpfooegnmknaaPutTQ
namespace Go.Proofs.Ytnmpfooegnmknaa.Tr
open Go.RowKit
set_option linter.unusedVariables false

def newT : List Pg := [⟨1, []⟩]
theorem owns_new (W : World) (cur : Array Value) (e : TypeId) (size n base b : Nat) (hw : W.heap.size = b) (hb : base ≤ b) (hm : n ≤ maxLen) (hs : cur.size = n * size) : (W.alloc (.cells cur e)).ownsRow base e size (.slice (some ⟨b, 0, none⟩) n n) n cur.toList := by
  subst hw
  exact ⟨by simpa using hs, .inr ⟨W.heap.size, n, cur, rfl, hb, heap_alloc_new W _, Nat.le_refl _, hm, hs, by rw [← hs, ← Array.length_toList, List.take_length]⟩⟩
/-- One page without entries, in a row of its own. -/
theorem own_newT {w : World} {base b : Nat} {u : Value} (hr : w.ownsRow base 86 2 (.slice (some ⟨b, 0, none⟩) 1 1) 1 [.int .i64 1, u]) (he : OwnE w base u []) (hu : u.ownBlock = none ∨ u.ownBlock ≠ some b) : OwnT w base (.slice (some ⟨b, 0, none⟩) 1 1) newT := by
  refine ⟨fun _ => u, [.int .i64 1, u], hr, ?_, ?_, ?_, ?_⟩
  · intro i hi _
    have : i = 0 := by simp [newT] at hi; omega
    subst this; exact ⟨rfl, rfl⟩
  · intro i hi _
    have : i = 0 := by simp [newT] at hi; omega
    subst this; exact he
  · intro i j hi hj _ _ hne
    simp [newT] at hi hj; omega
  · intro i _ _; exact hu
set_option maxRecDepth 4000 in
set_option maxHeartbeats 1000000 in
theorem specNewTree_any (w : World) :
    Calls Try.prog 91 #[] w fun e w' => (∃ b, e = .returned (.agg #[.slice (some ⟨b, 0, none⟩) 1 1, .int .i64 2]) ∧ OwnT w' w.heap.size (.slice (some ⟨b, 0, none⟩) 1 1) newT) ∧ Below w.heap.size w w' := by
  go_enter Try.func91, Try.ntmps91
  go_wp2_with fail
  refine bodyPost_ret (v := .agg #[.slice (some ⟨w.heap.size + 1 + 1, 0, none⟩) 1 1, .int .i64 2]) (by simp [results, Try.results91, go_sem]) rfl ⟨⟨_, rfl, own_newT (u := .slice (some ⟨w.heap.size + 1, 0, none⟩) 0 0) ?_ ?_ (.inr (by simp [Value.ownBlock]))⟩, by (repeat (first | (with_reducible exact Below.refl _ _) | (with_reducible assumption) | (with_reducible apply below_drewN) | (with_reducible apply Below.drew) | ((with_reducible refine Below.setCell ?_ ?_ _); rotate_left; focus (first | (simp; done) | (simp; omega) | omega)) | ((with_reducible refine Below.alloc ?_ ?_ _); rotate_left; focus (first | (simp; done) | (simp; omega) | omega))))⟩
  · exact owns_new _ #[.int .i64 1, .slice (some ⟨w.heap.size + 1, 0, none⟩) 0 0] _ 2 1 _ _ (by simp) (by omega) (by unfold maxLen; omega) rfl
  · exact (owns_new _ #[] 40 2 0 _ _ (by simp) (by omega) (by unfold maxLen; omega) rfl).alloc _

end Go.Proofs.Ytnmpfooegnmknaa.Tr

/- The specification's drawn entries and trees: what they are. -/
namespace Go.Proofs.Ytnmpfooegnmknaa.Tr
open Go.RowKit
set_option linter.unusedVariables false

theorem grown_up {w W W' : World} {g : Nat} {row : Option Nat} (h : w.grownBy W (some g)) (k : W.grownBy W' row) (hr : ∀ j, row = some j → w.heap.size ≤ j) : w.grownBy W' (some g) := h.andThen k (fun j hj => .inl (hr j hj))
theorem SrcAt.below {W W' : World} {g : Nat} {x : Option Addr} {cap : Nat} {zs : List Int} {a : Nat} (h : SrcAt W g x cap zs a) (hb : Below W.heap.size W W') : SrcAt W' g x cap zs a :=
  h.next (hb.block _ h.lt) (h.code.next (grown_below hb))
theorem Drew.below {w W W' : World} {g : Nat} {x : Option Addr} {cap : Nat} {zs : List Int} {a : Nat} (h : Drew w g x cap zs a W) (hb : Below W.heap.size W W') : Drew w g x cap zs a W' :=
  ⟨grown_up h.1 (grown_below (row := none) hb) (fun j hj => by cases hj), h.2.below hb⟩
theorem Drew.more {w W : World} {g : Nat} {x : Option Addr} {cap : Nat} {zs : List Int} {a b : Nat} (h : Drew w g x cap zs a W) (hab : a ≤ b) : Drew w g x cap zs b W := ⟨h.1, h.2.mono hab⟩
theorem Drew.setB {w W : World} {g : Nat} {x : Option Addr} {cap : Nat} {zs : List Int} {a b o : Nat} {v : Value} (hc : CodeAt w g x zs) (h : Drew w g x cap zs a W) (hg : g < w.heap.size) (hb : w.heap.size ≤ b) : Drew w g x cap zs a (W.setCell ⟨b, o, none⟩ v) := by
  have h1 : w.grownBy (W.setCell ⟨b, o, none⟩ v) (some g) := grown_up h.1 grown_set (fun j hj => by injection hj with hj; omega)
  obtain ⟨p, s, e1, e2, e3⟩ := h.2.block
  exact ⟨h1, ⟨⟨p, s, e1, e2, (grown_set.block g h.2.lt (fun e => by injection e with e; omega)).trans e3⟩, hc.next h1⟩⟩
theorem two_cells {W : World} {b : Nat} {T : TypeId} {v0 v1 : Value} (h : W.heap[b]? = some (.cells #[v0, v1] T)) : W.cell? ⟨b, 0, none⟩ = some v0 ∧ W.cell? ⟨b, 1, none⟩ = some v1 ∧ W.frozen? ⟨b, 0, none⟩ = false ∧ W.frozen? ⟨b, 1, none⟩ = false := by
  refine ⟨?_, ?_, ?_, ?_⟩ <;> simp [World.cell?, World.frozen?, h]
/-- Pages lie on where a block changes that holds neither pages nor entries. -/
theorem FullP.off {w w' : World} {g gp : Nat} {f : List Pg} (h : FullP w gp f) (h0 : ∀ n, w.cell? ⟨g, 0, none⟩ ≠ some (.int .i64 n)) (h1 : ∀ o s, w.cell? ⟨g, o, none⟩ ≠ some (.string s)) (hne : 0 < f.length) (hg : w.grownBy w' (some g)) : FullP w' gp f := by
  have hgp : gp ≠ g := by
    obtain ⟨q, c, hp⟩ := h.pages 0 hne
    have := hp.num
    intro e; subst e
    exact h0 _ (by simpa using this)
  have hc : ∀ b, b < w.heap.size → b ≠ g → ∀ o, w'.cell? ⟨b, o, none⟩ = w.cell? ⟨b, o, none⟩ := fun b hb hn o => World.cell?_of_block (hg.block b hb (fun e => hn (Option.some.inj e)))
  refine ⟨Nat.lt_of_lt_of_le h.lt hg.size, fun i hi => ?_⟩
  obtain ⟨q, c, hp⟩ := h.pages i hi
  refine ⟨q, c, Nat.lt_of_lt_of_le hp.lt hg.size, (hc gp hp.lt hgp _).trans hp.num, (hc gp hp.lt hgp _).trans hp.row, hp.cap, ?_, hp.form.imp id fun ⟨b', o', h3, h4⟩ => ⟨b', o', h3, Nat.lt_of_lt_of_le h4 hg.size⟩⟩
  rcases hp.ents with h0 | ⟨b, off, ha, hlt, hcell⟩
  · exact .inl h0
  · by_cases hz : f[i].es.length = 0
    · exact .inl hz
    · have hbg : b ≠ g := by
        intro e; subst e
        exact h1 _ _ (hcell 0 (by omega)).1
      exact .inr ⟨b, off, ha, Nat.lt_of_lt_of_le hlt hg.size, fun j hj => ⟨(hc b hlt hbg _).trans (hcell j hj).1, (hc b hlt hbg _).trans (hcell j hj).2⟩⟩
theorem src_not {w : World} {g : Nat} {x : Option Addr} {cap : Nat} {zs : List Int} {a : Nat} (h : SrcAt w g x cap zs a) : (∀ n, w.cell? ⟨g, 0, none⟩ ≠ some (.int .i64 n)) ∧ (∀ o s, w.cell? ⟨g, o, none⟩ ≠ some (.string s)) := by
  obtain ⟨k, s, _, _, hh⟩ := h.block
  refine ⟨fun n e => ?_, fun o t e => ?_⟩
  · simp [World.cell?, hh] at e
  · match o, e with
    | 0, e => simp [World.cell?, hh] at e
    | 1, e => simp [World.cell?, hh] at e
    | 2, e => simp [World.cell?, hh] at e
    | o + 3, e => simp [World.cell?, hh] at e
theorem two_not {w : World} {b : Nat} {T : TypeId} {p : Option Addr} {n c : Nat} {v : Int} (hh : w.heap[b]? = some (.cells #[.slice p n c, .int .i64 v] T)) : (∀ n, w.cell? ⟨b, 0, none⟩ ≠ some (.int .i64 n)) ∧ (∀ o s, w.cell? ⟨b, o, none⟩ ≠ some (.string s)) := by
  refine ⟨fun n e => ?_, fun o t e => ?_⟩
  · simp [World.cell?, hh] at e
  · match o, e with
    | 0, e => simp [World.cell?, hh] at e
    | 1, e => simp [World.cell?, hh] at e
    | o + 2, e => simp [World.cell?, hh] at e

/-- A drawn entry. -/
structure EntD (e : Ent) : Prop where
  key : e.key.size ≤ 2
  id0 : 0 ≤ e.id
  id4 : e.id < 4
theorem EntD.right {e : Ent} (h : EntD e) : entB e = true := by
  unfold entB; rw [decide_eq_true (by have := h.key; omega), decide_eq_true h.id0, decide_eq_true (by have := h.id4; omega)]; rfl
def keysD : List ByteArray := [⟨#[97]⟩, ⟨#[98]⟩, ⟨#[99]⟩, ⟨#[97, 97]⟩, ⟨#[]⟩, ⟨#[100]⟩, ⟨#[101]⟩]
theorem keysD_size : ∀ t ∈ keysD, t.size ≤ 2 := by
  intro t ht
  simp only [keysD, List.mem_cons, List.not_mem_nil, or_false] at ht
  rcases ht with rfl | rfl | rfl | rfl | rfl | rfl | rfl <;> decide

set_option maxRecDepth 4000 in
set_option maxHeartbeats 1000000 in
theorem drawEntry_any (g : Nat) (x : Option Addr) (cap : Nat) (zs : List Int) (a : Nat) (w : World) (h : SrcAt w g x cap zs a) (ha : a + 2 ≤ 1000000) :
    Calls Try.prog 45 #[.pointer (some ⟨g, 0, none⟩)] w fun e' w' => (∃ e : Ent, e' = .returned (.agg #[.string e.key, .int .i64 e.id]) ∧ EntD e) ∧ Drew w g x cap zs (a + 2) w' := by
  obtain ⟨W0, hW0⟩ : ∃ W, W = (w.alloc (.cells #[.string em, .int .i64 0] 40)).alloc (.cells #[.string ⟨#[97]⟩, .string ⟨#[98]⟩, .string ⟨#[99]⟩, .string ⟨#[97, 97]⟩, .string ⟨#[]⟩, .string ⟨#[100]⟩, .string ⟨#[101]⟩] 9) := ⟨_, rfl⟩
  have hb : Below w.heap.size w W0 := by rw [hW0]; exact ((Below.refl _ _).alloc (Nat.le_refl _) _).alloc (by simp) _
  have hz0 : W0.heap.size = w.heap.size + 2 := by rw [hW0]; simp
  have hblk : W0.heap[w.heap.size]? = some (.cells #[.string em, .int .i64 0] 40) := by
    rw [hW0]
    have b3 : Below (w.alloc (.cells #[.string em, .int .i64 0] 40)).heap.size (w.alloc (.cells #[.string em, .int .i64 0] 40)) ((w.alloc (.cells #[.string em, .int .i64 0] 40)).alloc (.cells #[.string ⟨#[97]⟩, .string ⟨#[98]⟩, .string ⟨#[99]⟩, .string ⟨#[97, 97]⟩, .string ⟨#[]⟩, .string ⟨#[100]⟩, .string ⟨#[101]⟩] 9)) := (Below.refl _ _).alloc (Nat.le_refl _) _
    exact (b3.block _ (by simp)).trans (heap_alloc_new w _)
  have hrow : W0.heap[w.heap.size + 1]? = some (.cells #[.string ⟨#[97]⟩, .string ⟨#[98]⟩, .string ⟨#[99]⟩, .string ⟨#[97, 97]⟩, .string ⟨#[]⟩, .string ⟨#[100]⟩, .string ⟨#[101]⟩] 9) := by
    rw [hW0]
    have := heap_alloc_new (w.alloc (.cells #[.string em, .int .i64 0] 40)) (.cells #[.string ⟨#[97]⟩, .string ⟨#[98]⟩, .string ⟨#[99]⟩, .string ⟨#[97, 97]⟩, .string ⟨#[]⟩, .string ⟨#[100]⟩, .string ⟨#[101]⟩] 9)
    simpa using this
  have hl := h.lt
  have HP : Hid (Calls _ _ _ _ _) := pick_any g x cap zs a (w.heap.size + 1) 7 keysD W0 (h.below hb) (by omega) (by decide) (by decide) (by omega) (by
    intro i hi
    have hi7 : i < 7 := hi
    match i, hi7 with
    | 0, _ => simp [World.cell?, hrow, keysD]
    | 1, _ => simp [World.cell?, hrow, keysD]
    | 2, _ => simp [World.cell?, hrow, keysD]
    | 3, _ => simp [World.cell?, hrow, keysD]
    | 4, _ => simp [World.cell?, hrow, keysD]
    | 5, _ => simp [World.cell?, hrow, keysD]
    | 6, _ => simp [World.cell?, hrow, keysD])
  have HC : Hid (CodeAt _ _ _ _) := h.code
  have HB : Hid (Below _ _ _) := hb
  have HS : Hid (SrcAt _ _ _ _ _ _) := h
  have hkl : keysD.length = 7 := rfl
  rw [hkl] at HP
  have HBLK : Hid (W0.heap[w.heap.size]? = _) := hblk
  have hW1 : (w.alloc (.cells #[.string em, .int .i64 0] 40)).alloc (.cells #[.string ⟨#[97]⟩, .string ⟨#[98]⟩, .string ⟨#[99]⟩, .string ⟨#[97, 97]⟩, .string ⟨#[]⟩, .string ⟨#[100]⟩, .string ⟨#[101]⟩] 9) = W0 := hW0.symm
  have HW : Hid (_ = W0) := hW1
  clear h hb hrow hblk hW0 hkl hW1
  go_enter Try.func45, Try.ntmps45
  go_wp2_with fail
  rw [HW.out]
  refine HP.out.mono ?_
  rintro e' w1 ⟨⟨t, ht, rfl⟩, hd⟩
  have HK : Hid _ := keysD_size t ht
  have HN : Hid (Calls _ _ _ _ _) := next_any g x cap zs (a + 1) 4 w1 hd.2 (by omega) (by omega) (by omega)
  have HD : Hid (Drew _ _ _ _ _ _ _) := hd
  clear hd ht HP
  go_wp2_with fail
  refine HN.out.mono ?_
  rintro e' w2 ⟨⟨z, rfl, hz⟩, hd⟩
  have hD2 : Drew W0 g x cap zs (a + 2) w2 := HD.out.trans hd
  have hblk2 : w2.heap[w.heap.size]? = some (.cells #[.string em, .int .i64 0] 40) := (hD2.1.block _ (by omega) (fun e => by injection e with e; omega)).trans HBLK.out
  obtain ⟨c0, c1, z0, z1⟩ := two_cells hblk2
  have hDw : Drew w g x cap zs (a + 2) w2 := ⟨by
    have h1 : w.grownBy W0 (some g) := grown_below HB.out
    exact h1.trans hD2.1, hD2.2⟩
  have HDW : Hid (Drew _ _ _ _ _ _ _) := hDw
  have hsz : w.heap.size < w2.heap.size := by have := hD2.1.size; omega
  clear hd hD2 hblk2 hDw HN HD
  go_wp2_with fail
  refine bodyPost_ret (v := .agg #[.string t, .int .i64 z]) (by simp [results, Try.results45, go_sem, *]) rfl ⟨⟨⟨t, z⟩, rfl, ⟨HK.out, by simp, by simp; omega⟩⟩, ?_⟩
  exact (Drew.setB HC.out (Drew.setB HC.out HDW.out hl (Nat.le_refl _)) hl (Nat.le_refl _))

theorem specDrop_row (p : Option Addr) (cap : Nat) (f : List Pg) (next : Int) (e : Ent) (w : World) (hF : RowF w p f) (hT : treeB f next = true) (hE : entB e = true) :
    Calls Try.prog 93 #[.agg #[.slice p f.length cap, .int .i64 next], .agg #[.string e.key, .int .i64 e.id]] w fun e' w' => (∃ p' cap' f' code, e' = .returned (.tuple #[.agg #[.slice p' f'.length cap', .int .i64 next], .int .i64 code]) ∧ RowF w' p' f' ∧ DropR f next e f' next code) ∧ Below w.heap.size w w' := by
  refine (specDrop_at p cap f next e w hF.rowP hT hE (fun g' pa ca i hp hi hc => ?_)).mono ?_
  · obtain ⟨g, rfl, hF⟩ := hF
    cases hp
    obtain ⟨q, c, hP⟩ := hF.pages i hi
    rw [hP.row] at hc
    injection hc with hc; injection hc with _ _ hc
    rw [← hc]; exact hP.cap
  · rintro e' w' ⟨⟨p', cap', f', code, he, _, hRF, hD⟩, hb⟩
    exact ⟨⟨p', cap', f', code, he, hRF hF, hD⟩, hb⟩
theorem specPut_row (p : Option Addr) (cap : Nat) (f : List Pg) (next : Int) (e : Ent) (w : World) (hF : RowF w p f) (hT : treeB f next = true) (hE : entB e = true) :
    Calls Try.prog 52 #[.agg #[.slice p f.length cap, .int .i64 next], .agg #[.string e.key, .int .i64 e.id]] w fun e' w' => (∃ p' cap' f' n num code, e' = .returned (.tuple #[.agg #[.slice p' f'.length cap', .int .i64 n], .int .i64 num, .int .i64 code]) ∧ RowF w' p' f' ∧ PutR f next e f' n num code) ∧ Below w.heap.size w w' := by
  obtain ⟨g, rfl, hF⟩ := hF
  exact specPut_at g cap f next e w hF hT hE
end Go.Proofs.Ytnmpfooegnmknaa.Tr

/- The specification's drawn trees: right ones, of the call's own. -/
namespace Go.Proofs.Ytnmpfooegnmknaa.Tr
open Go.RowKit
set_option linter.unusedVariables false

/-- While a tree is drawn: the source, the tree's block, the answer's block. -/
structure TS (w W : World) (g : Nat) (x : Option Addr) (c : Nat) (zs : List Int) (s bt : Nat) (p : Option Addr) (cap : Nat) (f : List Pg) (next : Int) : Prop where
  drew : Drew w g x c zs s W
  row : RowF W p f
  tb : W.heap[bt]? = some (.cells #[.slice p f.length cap, .int .i64 next] 37)
  rb : W.heap[w.heap.size]? = some (.cells #[.slice none 0 0, .int .i64 0] 37)
  code : CodeAt w g x zs
  gb : g < w.heap.size
  nb : w.heap.size < bt
  tree : treeB f next = true
section
variable {w W W' : World} {g : Nat} {x : Option Addr} {c : Nat} {zs : List Int} {s bt : Nat} {p : Option Addr} {cap : Nat} {f : List Pg} {next : Int}
theorem TS.bl (h : TS w W g x c zs s bt p cap f next) : bt < W.heap.size := (Array.getElem?_eq_some_iff.1 h.tb).1
theorem TS.ne (h : TS w W g x c zs s bt p cap f next) : 0 < f.length := by have := ((treeB_iff f next).1 h.tree).1; omega
theorem TS.below (h : TS w W g x c zs s bt p cap f next) (hb : Below W.heap.size W W') : TS w W' g x c zs s bt p cap f next :=
  ⟨h.drew.below hb, h.row.next hb, (hb.block _ h.bl).trans h.tb, (hb.block _ (by have := h.bl; have := h.nb; omega)).trans h.rb, h.code, h.gb, h.nb, h.tree⟩
theorem TS.draw (h : TS w W g x c zs s bt p cap f next) {s' : Nat} (hd : Drew W g x c zs s' W') : TS w W' g x c zs s' bt p cap f next := by
  have h1 := h.bl
  have h2 := h.nb
  have h3 := h.gb
  obtain ⟨gp, hp, hF⟩ := h.row
  have hn := src_not h.drew.2
  exact ⟨⟨h.drew.1.trans hd.1, hd.2⟩, ⟨gp, hp, hF.off hn.1 hn.2 h.ne hd.1⟩, (hd.1.block _ h1 (fun e => by injection e with e; omega)).trans h.tb, (hd.1.block _ (by omega) (fun e => by injection e with e; omega)).trans h.rb, h.code, h.gb, h.nb, h.tree⟩
theorem TS.more (h : TS w W g x c zs s bt p cap f next) {s' : Nat} (hs : s ≤ s') : TS w W g x c zs s' bt p cap f next := ⟨h.drew.more hs, h.row, h.tb, h.rb, h.code, h.gb, h.nb, h.tree⟩
theorem TS.store (h : TS w W g x c zs s bt p cap f next) (hb : Below W.heap.size W W') {p' : Option Addr} {cap' : Nat} {f' : List Pg} {next' : Int} (hr : RowF W' p' f') (ht : treeB f' next' = true) :
    TS w ((W'.setCell ⟨bt, 0, none⟩ (.slice p' f'.length cap')).setCell ⟨bt, 1, none⟩ (.int .i64 next')) g x c zs s bt p' cap' f' next' := by
  have h' := h.below hb
  have h1 := h'.bl
  have h2 := h.nb
  have h3 := h.gb
  have hne : 0 < f'.length := by have := ((treeB_iff f' next').1 ht).1; omega
  obtain ⟨gp, hp, hF⟩ := hr
  have hn := two_not h'.tb
  have b1 : (W'.setCell ⟨bt, 0, none⟩ (.slice p' f'.length cap')).heap[bt]? = some (.cells #[.slice p' f'.length cap', .int .i64 next] 37) := by rw [set_block h'.tb]; rfl
  have hn2 := two_not b1
  have b2 : ((W'.setCell ⟨bt, 0, none⟩ (.slice p' f'.length cap')).setCell ⟨bt, 1, none⟩ (.int .i64 next')).heap[bt]? = some (.cells #[.slice p' f'.length cap', .int .i64 next'] 37) := by rw [set_block b1]; rfl
  refine ⟨Drew.setB h.code (Drew.setB h.code h'.drew h.gb (by omega)) h.gb (by omega), ⟨gp, hp, (hF.off hn.1 hn.2 hne grown_set).off hn2.1 hn2.2 hne grown_set⟩, b2, ?_, h.code, h.gb, h.nb, ht⟩
  refine (grown_set.block _ ?_ (fun e => by injection e with e; omega)).trans ((grown_set.block _ (by omega) (fun e => by injection e with e; omega)).trans h'.rb)
  simp; omega
end
theorem newT_tree : treeB newT 2 = true := by decide
theorem newT_len : newT.length = 1 := rfl
theorem newT_all : allE newT = [] := rfl

set_option maxRecDepth 8000 in
set_option maxHeartbeats 4000000 in
theorem drawTree_any (g : Nat) (x : Option Addr) (c : Nat) (zs : List Int) (a : Nat) (w : World) (h : SrcAt w g x c zs a) (ha : a ≤ 1000) :
    Calls Try.prog 44 #[.pointer (some ⟨g, 0, none⟩)] w fun e' w' => (∃ (v : Value) (f : List Pg) (next : Int), e' = .returned (.agg #[v, .int .i64 next]) ∧ OwnT w' w.heap.size v f ∧ treeB f next = true ∧ f.length ≤ 24 ∧ next ≤ 25 ∧ ∀ e ∈ allE f, EntD e) ∧ Drew w g x c zs (a + 100) w' := by
  have hgl := h.lt
  have hb0 : Below w.heap.size w (w.alloc (.cells #[.slice none 0 0, .int .i64 0] 37)) := (Below.refl _ _).alloc (Nat.le_refl _) _
  have hrb0 : (w.alloc (.cells #[.slice none 0 0, .int .i64 0] 37)).heap[w.heap.size]? = some (.cells #[.slice none 0 0, .int .i64 0] 37) := heap_alloc_new w _
  have hs0 : (w.alloc (.cells #[.slice none 0 0, .int .i64 0] 37)).heap.size = w.heap.size + 1 := by simp
  have HS : Hid (SrcAt _ _ _ _ _ _) := h
  have HB0 : Hid (Below _ _ _) := hb0
  have HRB : Hid ((w.alloc (.cells #[.slice none 0 0, .int .i64 0] 37)).heap[w.heap.size]? = _) := hrb0
  have HS0 : Hid ((w.alloc (.cells #[.slice none 0 0, .int .i64 0] 37)).heap.size = _) := hs0
  clear h hb0 hrb0 hs0
  go_enter Try.func44, Try.ntmps44
  go_wp2_with fail
  refine (specNewTree_any _).mono ?_
  rintro e' w1 ⟨⟨b, rfl, hO⟩, hb1⟩
  have hbA : Below w1.heap.size w1 (w1.alloc (.cells #[.slice (some ⟨b, 0, none⟩) 1 1, .int .i64 2] 37)) := (Below.refl _ _).alloc (Nat.le_refl _) _
  have hbw : Below w.heap.size w w1 := HB0.out.trans (hb1.mono HB0.out.size)
  have hbW : Below w.heap.size w (w1.alloc (.cells #[.slice (some ⟨b, 0, none⟩) 1 1, .int .i64 2] 37)) := hbw.trans (hbA.mono hbw.size)
  have hw1 : w.heap.size < w1.heap.size := by have := hb1.size; rw [HS0.out] at this; omega
  have X1 : TS w (w1.alloc (.cells #[.slice (some ⟨b, 0, none⟩) 1 1, .int .i64 2] 37)) g x c zs a w1.heap.size (some ⟨b, 0, none⟩) 1 newT 2 :=
    ⟨⟨grown_below hbW, HS.out.below hbW⟩, ⟨b, rfl, (OwnT.full hO).next hbA⟩, heap_alloc_new w1 _, (hbA.block _ hw1).trans ((hb1.block _ (by rw [HS0.out]; omega)).trans HRB.out), HS.out.code, hgl, hw1, newT_tree⟩
  obtain ⟨bt, hbt⟩ : ∃ bt, bt = w1.heap.size := ⟨_, rfl⟩
  rw [← hbt] at X1
  have HX1 : Hid (TS _ _ _ _ _ _ _ _ _ _ _ _) := X1
  clear hO hb1 hbA hbw hbW X1 HB0 HRB HS0
  go_wp2_with fail
  rw [← hbt]
  generalize w1.alloc (.cells #[.slice (some ⟨b, 0, none⟩) 1 1, .int .i64 2] 37) = W1 at HX1 ⊢
  clear hbt hw1
  refine (next_any g x c zs a 24 _ HX1.out.drew.2 (by omega) (by omega) (by omega)).mono ?_
  rintro e' w2 ⟨⟨z, rfl, hz⟩, hd⟩
  have X2 := (HX1.out.draw hd).more (show a + 1 ≤ a + 100 - 3 * z by omega)
  have HX2 : Hid (TS _ _ _ _ _ _ _ _ _ _ _ _) := X2
  clear hd X2 HX1
  go_wp2_with fail
  go_loopw [4] (fun i wr => ∃ (k : Nat) (p : Option Addr) (cap : Nat) (f : List Pg) (next : Int), i = .int .i64 k ∧ k ≤ 23 ∧ k + f.length ≤ 24 ∧ k + next ≤ 25 ∧ (∀ e ∈ allE f, EntD e) ∧ TS w wr g x c zs (a + 100 - 3 * k) bt p cap f next) (fun i _ => (intOf i).toNat)
  case atStart => exact ⟨z, _, 1, newT, 2, rfl, by omega, by rw [newT_len]; omega, by omega, by rw [newT_all]; simp, HX2.out⟩
  case round =>
    obtain ⟨k, p, cap, f, next, rfl, hk, hkf, hkn, hall, X⟩ := hrel
    have HA : Hid (∀ e ∈ allE f, EntD e) := hall
    have HX : Hid (TS _ _ _ _ _ _ _ _ _ _ _ _) := X
    clear hall
    by_cases hk0 : 0 < k
    · have hk1 : (0 : Int) < (k : Int) := by omega
      have HK : Hid ((0 : Int) < (k : Int)) := hk1
      have HT : Hid (treeB f next = true) := X.tree
      clear X
      go_wp2_with fail
      refine (chance_any g x c zs (a + 100 - 3 * k) 4 _ HX.out.drew.2 (by omega) (by omega) (by omega)).mono ?_
      rintro e' wa ⟨⟨bb, rfl⟩, hd⟩
      have Xa := HX.out.draw hd
      have HXa : Hid (TS _ _ _ _ _ _ _ _ _ _ _ _) := Xa
      obtain ⟨t0, t1, y0, y1⟩ := two_cells Xa.tb
      have hbl := Xa.bl
      have hgb := Xa.gb
      have hnb := Xa.nb
      have hne : bt ≠ g := by omega
      clear hd Xa HX
      cases bb
      · go_wp2_with fail
        go_region_with (first | (go_at_call 45; refine (drawEntry_any g x c zs (a + 100 - 3 * k + 1) _ (HXa.out.below (show Below wa.heap.size wa _ by (repeat (first | (with_reducible exact Below.refl _ _) | (with_reducible assumption) | (with_reducible apply below_drewN) | (with_reducible apply Below.drew) | ((with_reducible refine Below.setCell ?_ ?_ _); rotate_left; focus (first | (simp; done) | (simp; omega) | omega)) | ((with_reducible refine Below.alloc ?_ ?_ _); rotate_left; focus (first | (simp; done) | (simp; omega) | omega)))))).drew.2 (by omega)).mono ?_; rintro e' wb ⟨⟨e, rfl, hE⟩, hd⟩; have Xb := (HXa.out.below (show Below wa.heap.size wa _ by (repeat (first | (with_reducible exact Below.refl _ _) | (with_reducible assumption) | (with_reducible apply below_drewN) | (with_reducible apply Below.drew) | ((with_reducible refine Below.setCell ?_ ?_ _); rotate_left; focus (first | (simp; done) | (simp; omega) | omega)) | ((with_reducible refine Below.alloc ?_ ?_ _); rotate_left; focus (first | (simp; done) | (simp; omega) | omega)))))).draw hd; have HXb : Hid (TS _ _ _ _ _ _ _ _ _ _ _ _) := Xb; have HE : Hid (EntD _) := hE; have tb := two_cells Xb.tb; have t0' := tb.1; have t1' := tb.2.1; have y0' := tb.2.2.1; have y1' := tb.2.2.2; have hbl' := Xb.bl; clear tb hd Xb hE) | (go_at_call 52; refine (specPut_row p cap f next e _ (HXb.out.below (show Below wb.heap.size wb _ by (repeat (first | (with_reducible exact Below.refl _ _) | (with_reducible assumption) | (with_reducible apply below_drewN) | (with_reducible apply Below.drew) | ((with_reducible refine Below.setCell ?_ ?_ _); rotate_left; focus (first | (simp; done) | (simp; omega) | omega)) | ((with_reducible refine Below.alloc ?_ ?_ _); rotate_left; focus (first | (simp; done) | (simp; omega) | omega)))))).row HT.out HE.out.right).mono ?_; rintro e' wc ⟨⟨p', cap', f', n', num, code, rfl, hRF, hPR⟩, hb⟩; have hBc : Below wb.heap.size wb wc := (show Below wb.heap.size wb _ by (repeat (first | (with_reducible exact Below.refl _ _) | (with_reducible assumption) | (with_reducible apply below_drewN) | (with_reducible apply Below.drew) | ((with_reducible refine Below.setCell ?_ ?_ _); rotate_left; focus (first | (simp; done) | (simp; omega) | omega)) | ((with_reducible refine Below.alloc ?_ ?_ _); rotate_left; focus (first | (simp; done) | (simp; omega) | omega))))).trans (hb.mono (by first | (simp; done) | (simp; omega) | omega)); have hT' := hPR.right ⟨HT.out, HE.out.right⟩; have Xs := HXb.out.store (cap' := cap') hBc hRF hT'; have HXs : Hid (TS _ _ _ _ _ _ _ _ _ _ _ _) := Xs; have tc := two_cells (HXb.out.below hBc).tb; have t0'' := tc.1; have t1'' := tc.2.1; have y0'' := tc.2.2.1; have y1'' := tc.2.2.2; have hbl'' := (HXb.out.below hBc).bl; have HPR : Hid (PutR _ _ _ _ _ _ _) := hPR; clear tc hb hRF hPR hT' Xs))
        all_goals
          go_wp2_with fail
          go_roundw
          case rel =>
            rcases HPR.out.ins ⟨HT.out, HE.out.right⟩ with ⟨rfl, rfl, _⟩ | ⟨_, hl1, hn1, P, S, ha1, ha2⟩
            · exact ⟨k - 1, p', cap', f', n', by go_num, by omega, by omega, by omega, HA.out, by have := HXs.out; rw [show a + 100 - 3 * k + 1 + 2 = a + 100 - 3 * (k - 1) by omega] at this; exact this⟩
            · refine ⟨k - 1, p', cap', f', n', by go_num, by omega, by omega, by omega, ?_, by have := HXs.out; rw [show a + 100 - 3 * k + 1 + 2 = a + 100 - 3 * (k - 1) by omega] at this; exact this⟩
              intro u hu
              rw [ha2, List.mem_append, List.mem_cons] at hu
              rcases hu with hu | rfl | hu
              · exact HA.out u (by rw [ha1]; exact List.mem_append_left _ hu)
              · exact HE.out
              · exact HA.out u (by rw [ha1]; exact List.mem_append_right _ hu)
          case measure => simp [intOf]; omega
      · go_wp2_with fail
        go_region_with (first | (go_at_call 45; refine (drawEntry_any g x c zs (a + 100 - 3 * k + 1) _ (HXa.out.below (show Below wa.heap.size wa _ by (repeat (first | (with_reducible exact Below.refl _ _) | (with_reducible assumption) | (with_reducible apply below_drewN) | (with_reducible apply Below.drew) | ((with_reducible refine Below.setCell ?_ ?_ _); rotate_left; focus (first | (simp; done) | (simp; omega) | omega)) | ((with_reducible refine Below.alloc ?_ ?_ _); rotate_left; focus (first | (simp; done) | (simp; omega) | omega)))))).drew.2 (by omega)).mono ?_; rintro e' wb ⟨⟨e, rfl, hE⟩, hd⟩; have Xb := (HXa.out.below (show Below wa.heap.size wa _ by (repeat (first | (with_reducible exact Below.refl _ _) | (with_reducible assumption) | (with_reducible apply below_drewN) | (with_reducible apply Below.drew) | ((with_reducible refine Below.setCell ?_ ?_ _); rotate_left; focus (first | (simp; done) | (simp; omega) | omega)) | ((with_reducible refine Below.alloc ?_ ?_ _); rotate_left; focus (first | (simp; done) | (simp; omega) | omega)))))).draw hd; have HXb : Hid (TS _ _ _ _ _ _ _ _ _ _ _ _) := Xb; have HE : Hid (EntD _) := hE; have tb := two_cells Xb.tb; have t0' := tb.1; have t1' := tb.2.1; have y0' := tb.2.2.1; have y1' := tb.2.2.2; have hbl' := Xb.bl; clear tb hd Xb hE) | (go_at_call 93; refine (specDrop_row p cap f next e _ (HXb.out.below (show Below wb.heap.size wb _ by (repeat (first | (with_reducible exact Below.refl _ _) | (with_reducible assumption) | (with_reducible apply below_drewN) | (with_reducible apply Below.drew) | ((with_reducible refine Below.setCell ?_ ?_ _); rotate_left; focus (first | (simp; done) | (simp; omega) | omega)) | ((with_reducible refine Below.alloc ?_ ?_ _); rotate_left; focus (first | (simp; done) | (simp; omega) | omega)))))).row HT.out HE.out.right).mono ?_; rintro e' wc ⟨⟨p', cap', f', code, rfl, hRF, hPR⟩, hb⟩; have hBc : Below wb.heap.size wb wc := (show Below wb.heap.size wb _ by (repeat (first | (with_reducible exact Below.refl _ _) | (with_reducible assumption) | (with_reducible apply below_drewN) | (with_reducible apply Below.drew) | ((with_reducible refine Below.setCell ?_ ?_ _); rotate_left; focus (first | (simp; done) | (simp; omega) | omega)) | ((with_reducible refine Below.alloc ?_ ?_ _); rotate_left; focus (first | (simp; done) | (simp; omega) | omega))))).trans (hb.mono (by first | (simp; done) | (simp; omega) | omega)); have hT' := (hPR.right ⟨HT.out, HE.out.right⟩).1; have Xs := HXb.out.store (cap' := cap') hBc hRF hT'; have HXs : Hid (TS _ _ _ _ _ _ _ _ _ _ _ _) := Xs; have tc := two_cells (HXb.out.below hBc).tb; have t0'' := tc.1; have t1'' := tc.2.1; have y0'' := tc.2.2.1; have y1'' := tc.2.2.2; have hbl'' := (HXb.out.below hBc).bl; have HPR : Hid (DropR _ _ _ _ _ _) := hPR; clear tc hb hRF hPR hT' Xs))
        all_goals
          go_wp2_with fail
          go_roundw
          case rel =>
            rcases (HPR.out.del ⟨HT.out, HE.out.right⟩).2 with ⟨rfl, _, _⟩ | ⟨_, hl1, P, S, ha1, ha2⟩
            · exact ⟨k - 1, p', cap', f', next, by go_num, by omega, by omega, by omega, HA.out, by have := HXs.out; rw [show a + 100 - 3 * k + 1 + 2 = a + 100 - 3 * (k - 1) by omega] at this; exact this⟩
            · refine ⟨k - 1, p', cap', f', next, by go_num, by omega, by omega, by omega, ?_, by have := HXs.out; rw [show a + 100 - 3 * k + 1 + 2 = a + 100 - 3 * (k - 1) by omega] at this; exact this⟩
              intro u hu
              rw [ha2, List.mem_append] at hu
              rcases hu with hu | hu
              · exact HA.out u (by rw [ha1]; exact List.mem_append_left _ hu)
              · exact HA.out u (by rw [ha1]; exact List.mem_append_right _ (List.mem_cons_of_mem _ hu))
          case measure => simp [intOf]; omega
    · have hk1 : ¬ (0 : Int) < (k : Int) := by omega
      obtain rfl : k = 0 := by omega
      obtain ⟨t0, t1, y0, y1⟩ := two_cells X.tb
      have h60 := (treeB_iff f next).1 X.tree
      have HO : Hid (Calls _ _ _ _ _) := specOwn_any p cap f next wr X.row.rowP (by omega) (fun l hl => Nat.le_trans (h60.2.1 l hl).1 (by omega))
      have HT : Hid (treeB f next = true) := X.tree
      clear X h60
      go_wp2_with fail
      refine HO.out.mono ?_
      rintro e' wz ⟨⟨v, rfl, hOT⟩, hb⟩
      obtain ⟨pv, cv, rfl⟩ := hOT.shape
      have Xz := HX.out.below hb
      obtain ⟨r0, r1, q0, q1⟩ := two_cells Xz.rb
      have hbl := Xz.bl
      have hnb := Xz.nb
      have hgb := Xz.gb
      have hsz := hb.size
      have hblr := HX.out.bl
      have HOT : Hid (OwnT _ _ _ _) := hOT
      have HXz : Hid (TS _ _ _ _ _ _ _ _ _ _ _ _) := Xz
      clear hb Xz HO hOT
      go_wp2_with fail
      refine bodyPost_ret (v := .agg #[.slice pv f.length cv, .int .i64 next]) (by simp [results, Try.results44, go_sem, *]) rfl ⟨⟨_, f, next, rfl, ?_, HT.out, by omega, by omega, HA.out⟩, ?_⟩
      · exact OwnT.mono ((HOT.out.grown grown_set (by omega)).grown grown_set (by omega)) (by omega)
      · have := Drew.setB HXz.out.code (Drew.setB HXz.out.code HXz.out.drew hgb (Nat.le_refl _) (o := 0) (v := .slice pv f.length cv)) hgb (Nat.le_refl _) (o := 1) (v := .int .i64 next)
        exact this.more (by omega)
end Go.Proofs.Ytnmpfooegnmknaa.Tr
