/-
  Where a clone lies behind its store, four boxes ahead of it; where propsIn points then.
-/
import Derived.Test.YteknbploiombiaaZLoc
import Derived.Test.YteknbploiombiaaZGup
import Derived.Test.YteknbploiombiaaZPinDrp
import Derived.Test.YteknbploiombiaaZPrp
import Derived.Test.YteknbploiombiaaZEk
namespace Go.Proofs.Yteknbploiombiaa
open Go.RowKit
set_option linter.unusedVariables false      -- a walk need not use every condition

/-- What a change that makes a graph hands back. -/
def Chg2 (g : Gg) (er : Int) (w : World) (e : Ending) (w' : World) : Prop := ∃ sv se, e = .returned (.tuple #[g.agg sv se, .int .i64 er]) ∧ Gg.In w' w.heap.size g sv se ∧ Below w.heap.size w w'
/-- What a change that makes a graph and tells something hands back. -/
def ChgB (g : Gg) (is : Bool) (er : Int) (w : World) (e : Ending) (w' : World) : Prop := ∃ sv se, e = .returned (.tuple #[g.agg sv se, .bool is, .int .i64 er]) ∧ Gg.In w' w.heap.size g sv se ∧ Below w.heap.size w w'
def Fsf (g : Gg) (el e2 : Array Value) (t2 : TypeId) (w W2 : World) (p q : Option Addr) (nv ne : Nat) : Prop := W2.heap[w.heap.size]? = some (.cells #[.slice p nv nv, .slice q ne ne, .int .i64 g.last] 27) ∧ W2.heap[w.heap.size + 1]? = some (.cells el 30) ∧ W2.heap[w.heap.size + 1 + 1]? = some (.cells e2 t2) ∧
  W2.heap[w.heap.size + 1 + 1 + 1]? = some (.cells #[.slice none 0 0, .slice none 0 0, .int .i64 0] 27) ∧ SpGr g W2 (w.heap.size + 4) (.slice p nv nv) (.slice q ne ne) ∧ Below w.heap.size w W2 ∧ w.heap.size + 4 ≤ W2.heap.size
theorem Fsf.on {g : Gg} {el e2 : Array Value} {t2 : TypeId} {w W2 W3 : World} {p q : Option Addr} {nv ne : Nat} (h : Fsf g el e2 t2 w W2 p q nv ne) (hb : Below W2.heap.size W2 W3) : Fsf g el e2 t2 w W3 p q nv ne :=
  ⟨blk_on hb h.1, blk_on hb h.2.1, blk_on hb h.2.2.1, blk_on hb h.2.2.2.1, h.2.2.2.2.1.on hb, h.2.2.2.2.2.1.trans (hb.mono h.2.2.2.2.2.1.size), Nat.le_trans h.2.2.2.2.2.2 hb.size⟩
theorem own_fin4 {g : Gg} {w w1 : World} {a b c : Value} {el e2 : Array Value} {t2 : TypeId} {p q : Option Addr} {nv ne : Nat} (h1 : SpGr g w1 (((((w.alloc (.cells #[a, b, c] 27)).alloc (.cells el 30)).alloc (.cells e2 t2)).alloc (.cells #[.slice none 0 0, .slice none 0 0, .int .i64 0] 27)).heap.size) (.slice p nv nv) (.slice q ne ne))
    (hb : Below ((((w.alloc (.cells #[a, b, c] 27)).alloc (.cells el 30)).alloc (.cells e2 t2)).alloc (.cells #[.slice none 0 0, .slice none 0 0, .int .i64 0] 27)).heap.size ((((w.alloc (.cells #[a, b, c] 27)).alloc (.cells el 30)).alloc (.cells e2 t2)).alloc (.cells #[.slice none 0 0, .slice none 0 0, .int .i64 0] 27)) w1) :
    w1.heap[w.heap.size]? = some (.cells #[a, b, c] 27) ∧ w1.heap[w.heap.size + 1]? = some (.cells el 30) ∧ w1.heap[w.heap.size + 1 + 1]? = some (.cells e2 t2) ∧ w1.heap[w.heap.size + 1 + 1 + 1]? = some (.cells #[.slice none 0 0, .slice none 0 0, .int .i64 0] 27) ∧
    Fsf g el e2 t2 w (((w1.setCell ⟨w.heap.size, 0, none⟩ (.slice p nv nv)).setCell ⟨w.heap.size, 1, none⟩ (.slice q ne ne)).setCell ⟨w.heap.size, 2, none⟩ (.int .i64 g.last)) p q nv ne := by
  have e0 := World.alloc_heap_new w (.cells #[a, b, c] 27)
  have e1 := World.alloc_heap_new (w.alloc (.cells #[a, b, c] 27)) (.cells el 30)
  have e2' := World.alloc_heap_new ((w.alloc (.cells #[a, b, c] 27)).alloc (.cells el 30)) (.cells e2 t2)
  have e3 := World.alloc_heap_new (((w.alloc (.cells #[a, b, c] 27)).alloc (.cells el 30)).alloc (.cells e2 t2)) (.cells #[.slice none 0 0, .slice none 0 0, .int .i64 0] 27)
  replace e0 := blk_on hb (blk_on (bel_then (bel1 _ (.cells el 30)) (bel_then (bel1 _ (.cells e2 t2)) (bel1 _ (.cells #[.slice none 0 0, .slice none 0 0, .int .i64 0] 27)))) e0)
  replace e1 := blk_on hb (blk_on (bel_then (bel1 _ (.cells e2 t2)) (bel1 _ (.cells #[.slice none 0 0, .slice none 0 0, .int .i64 0] 27))) e1)
  replace e2' := blk_on hb (blk_on (bel1 _ (.cells #[.slice none 0 0, .slice none 0 0, .int .i64 0] 27)) e2')
  replace e3 := blk_on hb e3
  simp only [World.size_alloc] at e1 e2' e3
  have hz : ((((w.alloc (.cells #[a, b, c] 27)).alloc (.cells el 30)).alloc (.cells e2 t2)).alloc (.cells #[.slice none 0 0, .slice none 0 0, .int .i64 0] 27)).heap.size = w.heap.size + 4 := by simp
  rw [hz] at h1
  have k : KeepB (w.heap.size + 4) w1 (((w1.setCell ⟨w.heap.size, 0, none⟩ (.slice p nv nv)).setCell ⟨w.heap.size, 1, none⟩ (.slice q ne ne)).setCell ⟨w.heap.size, 2, none⟩ (.int .i64 g.last)) := ((keepB_set (by omega)).trans (keepB_set (by omega))).trans (keepB_set (by omega))
  have f3 : (((w1.setCell ⟨w.heap.size, 0, none⟩ (.slice p nv nv)).setCell ⟨w.heap.size, 1, none⟩ (.slice q ne ne)).setCell ⟨w.heap.size, 2, none⟩ (.int .i64 g.last)).heap[w.heap.size + 1 + 1 + 1]? = some (.cells #[.slice none 0 0, .slice none 0 0, .int .i64 0] 27) := blk_oth (blk_oth (blk_oth e3 (by omega)) (by omega)) (by omega)
  refine ⟨e0, e1, e2', e3, blk_put3 e0, blk_oth (blk_oth (blk_oth e1 (by omega)) (by omega)) (by omega), blk_oth (blk_oth (blk_oth e2' (by omega)) (by omega)) (by omega), f3, h1.keep k (Nat.le_refl _), ?_, by have := (Array.getElem?_eq_some_iff.1 f3).1; omega⟩
  exact (((bel_then (bel_then (bel2 w _ _) (bel2 _ _ _)) hb).setCell (p := ⟨w.heap.size, 0, none⟩) (Nat.le_refl _) _).setCell (p := ⟨w.heap.size, 1, none⟩) (Nat.le_refl _) _).setCell (p := ⟨w.heap.size, 2, none⟩) (Nat.le_refl _) _
theorem own39s' (g : Gg) (pv pe : Option Addr) (nv ne cv ce : Nat) (hnv : g.vs.length = nv) (hne : g.es.length = ne) (W : World) (hg : Gg.In W 0 g (.slice pv nv cv) (.slice pe ne ce)) :
    Calls Try.prog 39 #[.agg #[.slice pv nv cv, .slice pe ne ce, .int .i64 g.last]] W fun e w' => ∃ p q, e = .returned (.tuple #[.agg #[.slice p nv nv, .slice q ne ne, .int .i64 g.last], .int .i64 g.err]) ∧ SpGr g w' W.heap.size (.slice p nv nv) (.slice q ne ne) ∧ Below W.heap.size W w' :=
  (own39s g _ _ W hg).mono fun e w' ⟨s1, s2, he, ho, hb⟩ => by
    obtain ⟨p, hp⟩ := ho.ow.v.hdr
    obtain ⟨q, hq⟩ := ho.ow.e.hdr
    rw [hnv] at hp
    rw [hne] at hq
    subst hp hq
    exact ⟨p, q, he, ho, hb⟩
/-- The end: the graph is stored into the result. -/
theorem fin4 {g : Gg} {w W : World} {s1 s2 : Value} {last : Int} (hl : g.last = last) (h : Gg.In W (w.heap.size + 4) g s1 s2) (hb : Below w.heap.size w W) :
    Gg.In (((W.setCell ⟨w.heap.size + 1 + 1 + 1, 0, none⟩ s1).setCell ⟨w.heap.size + 1 + 1 + 1, 1, none⟩ s2).setCell ⟨w.heap.size + 1 + 1 + 1, 2, none⟩ (.int .i64 last)) w.heap.size g s1 s2 ∧
    Below w.heap.size w (((W.setCell ⟨w.heap.size + 1 + 1 + 1, 0, none⟩ s1).setCell ⟨w.heap.size + 1 + 1 + 1, 1, none⟩ s2).setCell ⟨w.heap.size + 1 + 1 + 1, 2, none⟩ (.int .i64 last)) := by
  have k : KeepB (w.heap.size + 4) W (((W.setCell ⟨w.heap.size + 1 + 1 + 1, 0, none⟩ s1).setCell ⟨w.heap.size + 1 + 1 + 1, 1, none⟩ s2).setCell ⟨w.heap.size + 1 + 1 + 1, 2, none⟩ (.int .i64 last)) := ((keepB_set (by omega)).trans (keepB_set (by omega))).trans (keepB_set (by omega))
  refine ⟨h.keep k.keep (by omega), ?_⟩
  exact ((hb.setCell (p := ⟨w.heap.size + 1 + 1 + 1, 0, none⟩) (by show w.heap.size ≤ w.heap.size + 1 + 1 + 1; omega) _).setCell (p := ⟨w.heap.size + 1 + 1 + 1, 1, none⟩) (by show w.heap.size ≤ w.heap.size + 1 + 1 + 1; omega) _).setCell (p := ⟨w.heap.size + 1 + 1 + 1, 2, none⟩) (by show w.heap.size ≤ w.heap.size + 1 + 1 + 1; omega) _
theorem eqP0 (w : World) : (Op.equal 76 (Value.pointer none) (.pointer none)).run Try.prog w = .ok true w := by
  show (Op.equalIn (9999 + 1) 76 _ _).run Try.prog w = _
  rw [Op.equalIn]
  rw [Sem.run_bind, run_underlying Try.underlying76]
  rfl
theorem nilP0 (w : World) : (binOp BinOp.eql 76 (Value.pointer none) (.pointer none)).run Try.prog w = .ok (.bool true) w := by
  show (do pure (Value.bool (← Op.equal 76 (Value.pointer none) (.pointer none)))).run Try.prog w = _
  rw [Sem.run_bind, eqP0]
  rfl
theorem gUp_const {g : Gg} (hm : gMay g = true) {k id : Int} {f : List Pr → List Pr} {ps : List Pr} (hp : elPs g k id = some ps) : gUp g k id (fun _ => f ps) = gUp g k id f := by
  unfold elPs at hp
  unfold gUp
  by_cases h6 : k = 6
  · rw [if_pos h6] at hp ⊢
    rw [if_pos h6]
    have ha := all_v hm hp
    congr 1
    refine List.map_congr_left fun x hx => ?_
    unfold Vx.up
    by_cases c : x.id = id
    · rw [if_pos c, if_pos c, ha x hx c]
    · rw [if_neg c, if_neg c]
  · rw [if_neg h6] at hp ⊢
    rw [if_neg h6]
    by_cases h7 : k = 7
    · rw [if_pos h7] at hp ⊢
      rw [if_pos h7]
      have ha := all_e hm hp
      congr 1
      refine List.map_congr_left fun x hx => ?_
      unfold Lk.up
      by_cases c : x.id = id
      · rw [if_pos c, if_pos c, ha x hx c]
      · rw [if_neg c, if_neg c]
    · rw [if_neg h7] at hp; cases hp
theorem gUp_last (g : Gg) (k id : Int) (f : List Pr → List Pr) : (gUp g k id f).last = g.last := by unfold gUp; split; rfl; split <;> rfl
theorem gUp_vlen (g : Gg) (k id : Int) (f : List Pr → List Pr) : (gUp g k id f).vs.length = g.vs.length := by unfold gUp; split; simp; split <;> rfl
theorem gUp_elen (g : Gg) (k id : Int) (f : List Pr → List Pr) : (gUp g k id f).es.length = g.es.length := by unfold gUp; split; rfl; split; simp; rfl
/-- What propsIn tells of the clone. -/
def PinR (g : Gg) (k id : Int) (w W2 : World) (p q : Option Addr) (nv ne : Nat) (e : Ending) (W3 : World) : Prop := Below W2.heap.size W2 W3 ∧ ((elPs g k id = none ∧ e = .returned (.pointer none)) ∨
  ∃ ps Ab Ao, elPs g k id = some ps ∧ e = .returned (.pointer (some ⟨Ab, Ao, none⟩)) ∧ LocG W3 (w.heap.size + 4) Ab Ao ps (fun ps' => gUp g k id fun _ => ps') (.slice p nv nv) (.slice q ne ne))
theorem pin40 {g : Gg} {k id : Int} {s : ByteArray} {lx : List V} {r : Option Addr} {m d : Nat} {e2 : Array Value} {t2 : TypeId} {w W2 : World} {p q : Option Addr} {nv ne : Nat} (hnv : g.vs.length = nv) (hne : g.es.length = ne) (hm : gMay g = true) (HF : Fsf g #[.int .i64 k, .int .i64 id, .string s, .slice r m d] e2 t2 w W2 p q nv ne) (hem : (V.mk k id s lx).In W2 0 (.slice r m d)) :
    Calls Try.prog 40 #[.pointer (some ⟨w.heap.size, 0, none⟩), .agg #[.int .i64 k, .int .i64 id, .string s, .slice r m d]] W2 fun e W3 => PinR g (ek k s lx) id w W2 p q nv ne e W3 := by
  have hsp := HF.2.2.2.2.1
  have hin := hsp.ow.is
  by_cases h6 : k = 6
  · subst h6
    refine (pin_v g.vs p nv (.slice q ne ne) g.last w.heap.size id s lx r m d W2 (by rw [hnv]; exact HF.1) (by rw [hnv]; exact hin.2.1.low (Nat.zero_le _)) hem).mono ?_
    rintro e W3 ⟨hb, ⟨i, hi, hpl, h1, h2, b, o, rfl, rfl⟩ | ⟨h1, rfl⟩⟩
    · obtain ⟨b', e', hL⟩ := loc_v (hsp.on hb) i hi
      injection e' with e1
      injection e1 with e1
      injection e1 with e1 e2
      subst e1 e2
      refine ⟨hb, .inr ⟨g.vs[i].ps, b, 0 + i * 3 + 2, elv_yes hpl (find_at_v hi h1 h2), rfl, ?_⟩⟩
      rw [Nat.zero_add]
      have hf : (fun ps' => gUp g (ek 6 s lx) id fun _ => ps') = fun ps => { g with vs := g.vs.set i { g.vs[i] with ps := ps } } := by
        rw [ek_yes hpl]
        funext ps'
        exact (up_v hm hi h1 (fun _ => ps')).symm
      rw [hf]
      exact hL
    · exact ⟨hb, .inl ⟨elv_no (fun hp => find_no_v fun t ht => h1 t ht hp), rfl⟩⟩
  · by_cases h7 : k = 7
    · subst h7
      refine (pin_e g.es q ne (.slice p nv nv) g.last w.heap.size id s lx r m d W2 (by rw [hne]; exact HF.1) (by rw [hne]; exact hin.2.2.low (Nat.zero_le _)) hem).mono ?_
      rintro e W3 ⟨hb, ⟨i, hi, hpl, h1, h2, b, o, rfl, rfl⟩ | ⟨h1, rfl⟩⟩
      · obtain ⟨b', e', hL⟩ := loc_e (hsp.on hb) i hi
        injection e' with e1
        injection e1 with e1
        injection e1 with e1 e2
        subst e1 e2
        refine ⟨hb, .inr ⟨g.es[i].ps, b, 0 + i * 5 + 4, ele_yes hpl (find_at_e hi h1 h2), rfl, ?_⟩⟩
        rw [Nat.zero_add]
        have hf : (fun ps' => gUp g (ek 7 s lx) id fun _ => ps') = fun ps => { g with es := g.es.set i { g.es[i] with ps := ps } } := by
          rw [ek_yes hpl]
          funext ps'
          exact (up_e hm hi h1 (fun _ => ps')).symm
        rw [hf]
        exact hL
      · exact ⟨hb, .inl ⟨ele_no (fun hp => find_no_e fun t ht => h1 t ht hp), rfl⟩⟩
    · refine (pin_o w.heap.size k id s r m d W2 h6 h7).mono ?_
      rintro e W3 ⟨hb, rfl⟩
      exact ⟨hb, .inl ⟨elo_no h6 h7, rfl⟩⟩
end Go.Proofs.Yteknbploiombiaa
