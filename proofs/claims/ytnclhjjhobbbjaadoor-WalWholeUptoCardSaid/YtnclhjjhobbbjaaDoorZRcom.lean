/-
  What commit of the document does.
-/
import Derived.Test.YtnclhjjhobbbjaaDoorZLgLsComElCu3Ops
import Derived.Test.YtnclhjjhobbbjaaDoorZCtmRctBsxNumpNumTFuse
import Derived.Shelf.RegionOpen
namespace Go.Proofs.YtnclhjjhobbbjaaDoor
open Go.RowKit Go.Maps
set_option linter.unusedVariables false      -- a walk need not use every condition
attribute [local go_sem ↓] Go.wp_at_zero Go.wp_at_succ

set_option maxHeartbeats 2000000 in
set_option maxRecDepth 100000 in
theorem commit39 (w : World) (v : Value) (rs : Rs) (hv : Bss w v rs) (hlen : (cby rs).length ≤ 4398046511104) :
    Calls Tryd.prog 39 #[v] w fun e w' => ∃ v', e = .returned v' ∧ Bts w' w.heap.size v' (cby rs) ∧ Below w.heap.size w w' := by
  have HV := Lib.hid hv
  obtain ⟨p, cap, rfl, -⟩ := hv
  have hl := rsb_len rs
  have hcl := cby_len rs
  have hnz : rs.length ≤ 4398046511104 := by omega
  have c0 := rput57 rs.length (by omega) w (.slice none 0 0) [] (bs_nil w) (by simp)
  have cN := fun (n : Nat) hn => rput57 n hn
  have hw : IntKind.u64.wrap (rs.length : Int) = (rs.length : Int) := by rw [IntKind.wrap_u64]; omega
  have HC : Hid (cby rs = vnt rs.length ++ rsb rs) := rfl
  obtain ⟨V, hV⟩ : ∃ V, vnt rs.length = V := ⟨_, rfl⟩
  rw [hV, List.nil_append] at c0
  rw [hV] at hcl
  have HC2 : Hid (cby rs = V ++ rsb rs) := by show _ = _; rw [HC.out, hV]
  have HTot : Hid (V.length + (rsb rs).length ≤ 4398046511104) := by show _ ≤ _; omega
  generalize cby rs = CB at *
  clear hcl hV hlen hl HC
  go_enter Tryd.func39, Tryd.ntmps39
  go_wp2_with (first | (go_at_call 57; refine c0.mono ?_; rintro e w1 ⟨v1, rfl, hb1, hB1⟩))
  clear c0
  have HB1 := Lib.hid hB1
  have HO1 := Lib.hid hb1
  clear hB1 hb1
  go_loopg [3, 4] rs.length (fun g s3 s4 wr => ∃ (i : Nat) (T : List UInt8), i + g = rs.length ∧ s4 = .int .i64 i ∧ Hid (T = V ++ rsb (rs.take i)) ∧ Hid (Bts wr w.heap.size s3 T) ∧ Hid (Below w.heap.size w wr))
  case atStart => exact ⟨0, V, by omega, rfl, by show V = V ++ _; rw [List.take_zero, rsb_nil, List.append_nil], HO1.out, HB1.out⟩
  case round =>
    obtain ⟨i, T, hig, rfl, hT, ho, hb⟩ := hrel
    cases gk with
    | zero =>
      obtain rfl : i = rs.length := by omega
      have hT' : Hid (T = CB) := by have := hT.out; rw [List.take_length] at this; show _ = _; rw [this, HC2.out]
      clear hT
      go_wp2
      go_ret
      exact ⟨_, rfl, by rw [← hT'.out]; exact ho.out, hb.out⟩
    | succ g =>
      have hi : i < rs.length := by omega
      have hiz : (i : Int) < (rs.length : Int) := by omega
      have hi0 : (0 : Int) ≤ (i : Int) := by omega
      obtain ⟨p', cap', e, hel⟩ := HV.out
      injection e with e1 e2 e3
      subst e1 e3
      obtain ⟨b, o, rfl, hel2⟩ := hel.resolve_left (fun e => by rw [e] at hi; simp at hi)
      obtain ⟨x, hx0, hxB⟩ := hel2 i hi
      have hx := cell_on hb.out hx0
      have hxd : wr.drew.cell? ⟨b, o + i, none⟩ = some x := hx
      have HX0 := Lib.hid hx0
      clear hx0
      have hsu := rsb_succ rs hi
      have hle := rsb_take_le rs (i + 1)
      have hU := hxB.len
      unfold maxLen at hU
      have HXB := Lib.hid hxB
      obtain ⟨xp, xc, rfl, -⟩ := hxB
      have hw1 : IntKind.u64.wrap (rs[i].length : Int) = (rs[i].length : Int) := by rw [IntKind.wrap_u64]; omega
      have hL : Hid (T.length + ((vnt rs[i].length).length + rs[i].length) ≤ 4398046511104) := by
        have h1 := HTot.out
        have h2 := congrArg List.length hsu
        have h3 := congrArg List.length hT.out
        simp at h2 h3
        show _ ≤ _
        omega
      have c1 := cN rs[i].length (by omega) wr.drew _ T (ho.out.bs.on (Below.refl _ wr).drew) (by have := hL.out; omega)
      have hT3 : Hid (T ++ vnt rs[i].length ++ rs[i] = V ++ rsb (rs.take (i + 1))) := by show _ = _; rw [hsu, hT.out]; simp
      generalize vnt rs[i].length = A at *
      generalize rs[i] = U at *
      have hbz := hb.out.size
      clear hel hel2 hsu hle hT
      go_wp2
      go_region_with (first
        | (go_at_call 57; refine c1.mono ?_
           rintro e w2 ⟨y, rfl, hbt, hb2⟩
           have hb2' : Below wr.heap.size wr w2 := ⟨hb2.os, hb2.tape, hb2.output, hb2.size, hb2.block⟩
           have hB2 : Below w.heap.size w w2 := hb.out.trans (hb2'.mono hbz)
           have hbt' : Bts w2 w.heap.size y (T ++ A) := hbt.mono hbz
           have hx2 := cell_on hB2 HX0.out
           obtain ⟨v3, w3, hap, hR3, hg3⟩ := app_run w2 w.heap.size y _ (T ++ A) U hbt' (HXB.out.on hB2) (by have := hL.out; simp; omega) hB2.size 43
           have stp := Lib.hid (And.intro hR3 (hB2.trans (hbt'.below hg3 hB2.size)))
           obtain ⟨yp, yc, rfl, -⟩ := hbt.bs
           simp [go_sem] at hap
           clear hR3 hg3 hbt hb2 hbt' hb2' hB2))
      all_goals
        clear hap
        go_wp2
        go_roundg g
        case measure => omega
        case rel => exact ⟨i + 1, T ++ A ++ U, by omega, by first | rfl | simp, hT3, stp.out.1, stp.out.2⟩
end Go.Proofs.YtnclhjjhobbbjaaDoor
