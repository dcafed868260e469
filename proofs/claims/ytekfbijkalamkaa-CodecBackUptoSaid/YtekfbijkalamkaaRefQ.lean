/-
  The document's After (rambleref03) and SameAll (rambleref02) of lists that are the same.
-/
import Derived.Test.YtekfbijkalamkaaRefP
import Derived.Test.YtekfbijkalamkaaOrder
namespace Go.Proofs.Ytekfbijkalamkaa
open Go.RowKit
set_option linter.unusedVariables false      -- a walk need not use every condition

set_option maxHeartbeats 1000000 in
set_option maxRecDepth 20000 in
theorem refAfter18 (w : World) (b : Value) (t : List UInt8) (h : Bs w b t) (ht : t.length ≤ 140737488355328) :
    Calls Try.prog 18 #[b] w (AfterR t w) := by
  obtain ⟨p, cap, rfl, h1, h2, h3, h4⟩ := h
  unfold maxLen at h2
  go_enter Try.func18, Try.ntmps18
  go_wp2
  go_loopg [4] t.length (fun g i wr => ∃ n : Nat, g = n ∧ n ≤ t.length ∧ i = .int .i64 n ∧ Hid (∀ d ∈ t.drop n, d = 255) ∧ wr = w)
  case atStart => exact ⟨t.length, rfl, Nat.le_refl _, rfl, (fun d hd => by rw [List.drop_length] at hd; cases hd), rfl⟩
  case round =>
    obtain ⟨n, hgn, hn, rfl, hall, hwr⟩ := hrel
    subst hwr
    by_cases hn0 : n = 0
    · subst hn0
      have ha : Hid (aft t = none) := aft_none hall.out
      clear hall h4
      go_wp2
      go_ret2
      exact .inl ⟨ha.out, rfl, Below.refl _ _⟩
    · have hml : n - 1 < t.length := by omega
      obtain ⟨g, o, hp, hc⟩ := h4.resolve_left (by intro e; rw [e] at hml; simp at hml)
      have hcell := hc (n - 1) hml
      obtain ⟨c, hcc⟩ : ∃ c, Hid (t[n - 1] = c) := ⟨t[n - 1], (rfl : _ = _)⟩
      rw [hcc.out] at hcell
      have i0 : (0 : Int) < (n : Int) := by omega
      have i1 : (n : Int) - 1 < (t.length : Int) := by omega
      subst hp
      by_cases hc255 : c = 255
      · have hall' : Hid (∀ d ∈ t.drop (n - 1), d = 255) := all_take hml hcc.out (by rw [show n - 1 + 1 = n by omega]; exact hall.out) hc255
        have b1 : ¬ ((c.toNat : Int) < 255) := by rw [hc255]; decide
        clear hall hc255 hc h4
        go_wp2
        go_roundg (n - 1)
        case rel => exact ⟨n - 1, rfl, by omega, congrArg (Value.int .i64) (by omega), hall', rfl⟩
        case measure => omega
      · have b1 : ((c.toNat : Int) < 255) := by
          have h1 : c.toNat ≠ 255 := fun e => hc255 (UInt8.toNat_inj.1 e)
          have := c.toNat_lt
          omega
        have hsplit : t = t.take (n - 1) ++ c :: t.drop n := by
          have e := List.take_append_drop (n - 1) t
          rw [List.drop_eq_getElem_cons hml, hcc.out, show n - 1 + 1 = n by omega] at e
          exact e.symm
        have ha : Hid (aft t = some (t.take (n - 1) ++ [c + 1])) := by
          show _ = _
          rw [hsplit]
          rw [aft_some _ hall.out hc255]
          rw [← hsplit]
        have htk : t.take n = t.take (n - 1) ++ [c] := by
          have e := List.take_succ_eq_append_getElem hml
          rw [show n - 1 + 1 = n by omega, hcc.out] at e
          exact e
        have hs := succ_toNat hc255
        have hnews : Hid (∀ j y, ((t.take n).map fun d => Value.int .u8 d.toNat)[j]? = some y → wr.cell? ((⟨g, o, none⟩ : Addr).add j) = some y) := by
          intro j y hy
          rw [List.getElem?_map] at hy
          obtain ⟨d, hd, rfl⟩ := Option.map_eq_some_iff.1 hy
          rw [List.getElem?_take] at hd
          split at hd
          · obtain ⟨hjl, rfl⟩ := List.getElem?_eq_some_iff.1 hd
            have := hc j hjl
            cases j <;> simpa [Addr.add] using this
          · cases hd
        have hlen : Hid ((t.take n).length = n) := by show _ = _; simp; omega
        have hlt : (t.take (n - 1)).length = n - 1 := by simp; omega
        generalize t.take n = U at *
        generalize t.take (n - 1) = T at *
        clear hall hc255 hc h4 hsplit hcc
        have htk' := Lib.hid htk
        clear htk
        have hsum : Hid ((((c + 1).toNat : Nat) : Int) = (c.toNat : Int) + 1) := by show _ = _; rw [hs]; simp
        have hsum2 : ((c.toNat : Int) + 1) % 256 = (c.toNat : Int) + 1 := by have := (c + 1).toNat_lt; omega
        go_wp2_with (at_builtin; refine wpList_app_byts _ rfl _ _ rfl wr.heap.size (.slice none 0 0) [] rfl (World.ownsRow_nil _ _ _ _) ⟨g, o, none⟩ cap U (by rw [hlen.out]; rfl) hnews.out (by rw [hlen.out]; simp; omega) (Nat.le_refl _) ?_; intro v3 w3 hb3 hg3; rw [List.nil_append, htk'.out] at hb3; have hB1 := below_app (Below.refl _ wr) (World.ownsRow_nil wr wr.heap.size 5 1) hg3; obtain ⟨g1, cap1, rfl, hbg, hce, hfr, hst⟩ := row_last hb3 hlt hn0; clear hg3 hb3)
        have hst1 := hst (c + 1)
        rw [hsum.out] at hst1
        have hst' := Lib.hid hst1
        go_ret2
        refine .inr ⟨T ++ [c + 1], _, ha.out, rfl, hst'.out, hB1.setCell (p := ⟨g1, n - 1, none⟩) hbg _⟩
set_option maxHeartbeats 1000000 in
set_option maxRecDepth 20000 in
/-- Lists that are the same. -/
theorem refSameAll19 (l : List V) (sl sm : Value) (w : World) (hl : Sl w 0 l sl) (hm : Sl w 0 l sm) :
    Calls Try.prog 19 #[sl, sm] w fun e w' => e = .returned (.bool true) ∧ Below w.heap.size w w' := by
  obtain ⟨p, cap, rfl, hc, hcm, -, hx⟩ := hl
  obtain ⟨q, cap', rfl, hc', hcm', -, hx'⟩ := hm
  unfold maxLen at hcm hcm'
  go_enter Try.func19, Try.ntmps19
  go_wp2
  go_loopg [5] l.length (fun g i wr => ∃ k : Nat, g + k = l.length ∧ i = .int .i64 k ∧ Hid (Below w.heap.size w wr))
  case atStart => exact ⟨0, by omega, rfl, Below.refl _ _⟩
  case round =>
    obtain ⟨k, hgk, rfl, hBr⟩ := hrel
    by_cases hk : k < l.length
    · obtain ⟨b, o, rfl, -, hx1⟩ := hx.resolve_left (by rintro rfl; simp at hk)
      obtain ⟨b', o', rfl, -, hx2⟩ := hx'.resolve_left (by rintro rfl; simp at hk)
      obtain ⟨s1, a0, a1, a2, a3, hv1⟩ := (hx1.on' hBr.out).at k hk
      obtain ⟨s2, b0, b1', b2', b3, hv2⟩ := (hx2.on' hBr.out).at k hk
      have c14 := fun w => refSame_any (l[k]'hk) (l[k]'hk) s1 s2 w
      clear hx hx' hx1 hx2
      unfold V.agg at c14
      generalize l[k] = x at *
      rw [show (V.cmp x x == 0) = true by rw [cmp_self]; rfl] at c14
      obtain ⟨p1, n1, c1, rfl⟩ := hv1.header
      obtain ⟨p2, n2, c2, rfl⟩ := hv2.header
      have i1 : (k : Int) < (l.length : Int) := by omega
      go_wp2
      go_region_held3 (fun w' => w'.cell? ⟨b, o + k * 4, none⟩ = some (.int .i64 x.k) ∧ w'.cell? ⟨b, o + k * 4 + 1, none⟩ = some (.int .i64 x.n) ∧ w'.cell? ⟨b, o + k * 4 + 2, none⟩ = some (.string x.s) ∧ w'.cell? ⟨b, o + k * 4 + 3, none⟩ = some (.slice p1 n1 c1) ∧
          w'.cell? ⟨b', o' + k * 4, none⟩ = some (.int .i64 x.k) ∧ w'.cell? ⟨b', o' + k * 4 + 1, none⟩ = some (.int .i64 x.n) ∧ w'.cell? ⟨b', o' + k * 4 + 2, none⟩ = some (.string x.s) ∧ w'.cell? ⟨b', o' + k * 4 + 3, none⟩ = some (.slice p2 n2 c2))
        (first | exact ⟨a0, a1, a2, a3, b0, b1', b2', b3⟩ | exact ⟨some_on hb2 a0, some_on hb2 a1, some_on hb2 a2, some_on hb2 a3, some_on hb2 b0, some_on hb2 b1', some_on hb2 b2', some_on hb2 b3⟩)
        (first | (go_at_call 14; refine (c14 _ (hv1.on (Below.refl _ _).drew) (hv2.on (Below.refl _ _).drew)).mono ?_; rintro e w2 ⟨rfl, hb2⟩))
      have hB5 := bel_then hBr.out (bel_then (Below.refl _ wr).drew hb2)
      clear c14
      go_wp2
      go_roundg (gk - 1)
      case rel => exact ⟨k + 1, by omega, by go_num, hB5⟩
      case measure => omega
    · obtain rfl : k = l.length := by omega
      clear hx hx'
      go_wp2
      go_ret
      exact ⟨rfl, hBr.out⟩
end Go.Proofs.Ytekfbijkalamkaa
