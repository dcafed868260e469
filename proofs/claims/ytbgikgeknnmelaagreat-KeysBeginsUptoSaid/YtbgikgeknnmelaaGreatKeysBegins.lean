/-
  For any value, any labels and any values: Key, Out, In, Label and Prop of package keys answer as the document does, and begun holds; where what comes in is of bulk at most 1048576 (the second form: the sign of a greater value wants more bytes than any slice can hold).
-/
import Derived.Test.YtbgikgeknnmelaaGreatShell
import Derived.Test.YtbgikgeknnmelaaGreatBeg
namespace Go.Proofs.YtbgikgeknnmelaaGreat
open Go.ChangeShapes Go.WideShapes Go.ChangeAt Go.RowKit
theorem read42 : Tryz.prog.readableRec 42 = true := by kernel_rfl
theorem lt42 : 42 < Tryz.prog.types.size := of_decide_eq_true (by kernel_rfl)
theorem bytes9 : Tryz.prog.bytesOf 9 = 16 := by kernel_rfl
theorem bulk_pos {H : Type} (d : DataW H) : 1 ≤ Rows.uptoBulk d := by
  unfold Rows.uptoBulk; split <;> omega
theorem many_mem : ∀ {l : List V} {v : V}, v ∈ l → v.many ≤ manyL l
  | [], v, h => by cases h
  | a :: l, v, h => by
    simp only [manyL]
    rcases List.mem_cons.1 h with rfl | h
    · omega
    · have := many_mem h; omega
theorem cells_one {w : World} {a : Addr} {cs : List Value} (h : w.cells? 0 a 1 = some cs) : ∃ c, cs = [c] ∧ a.spot = none ∧ w.cell? ⟨a.block, a.off, none⟩ = some c := by
  obtain ⟨b, o, sp⟩ := a
  unfold World.cells? at h
  rw [if_pos (Nat.zero_le _)] at h
  simp only [List.range, List.range.loop, List.mapM_cons, List.mapM_nil, Option.bind_eq_bind, Option.bind_eq_some_iff, Option.pure_def, Option.some.injEq] at h
  obtain ⟨c0, h0, _, rfl, rfl⟩ := h
  have hs : sp = none := by simpa [Addr.add] using World.cell?_spot h0
  subst hs
  exact ⟨c0, rfl, rfl, by simpa [Addr.add] using h0⟩
theorem strs_of {H : Type} {W : World} {b : Nat} : ∀ (es : List (DataW H)) (o : Nat), (∀ i (hi : i < es.length), ∃ s : ByteArray, W.cell? ⟨b, o + i, none⟩ = some (.string s) ∧ s.size + 1 ≤ Rows.uptoBulk es[i]) →
    ∃ l : List ByteArray, l.length = es.length ∧ (∀ i (hi : i < l.length), W.cell? ⟨b, o + i, none⟩ = some (.string l[i])) ∧ ∀ s ∈ l, s.size + 1 ≤ Rows.uptoBulkAll es
  | [], _, _ => ⟨[], rfl, fun i hi => absurd hi (Nat.not_lt_zero _), fun s h => by cases h⟩
  | e :: es, o, h => by
    obtain ⟨s, hs, hm⟩ := h 0 (by simp)
    obtain ⟨l, hl, hc, hb⟩ := strs_of es (o + 1) fun i hi => by
      obtain ⟨s, hs, hm⟩ := h (i + 1) (by simpa using hi)
      rw [show o + (i + 1) = o + 1 + i by omega] at hs
      exact ⟨s, hs, by simpa using hm⟩
    simp only [List.getElem_cons_zero] at hm
    refine ⟨s :: l, by simp [hl], fun i hi => ?_, fun t ht => ?_⟩
    · cases i with
      | zero => exact hs
      | succ i => rw [show o + (i + 1) = o + 1 + i by omega]; exact hc i (by simpa using hi)
    · simp only [Rows.uptoBulkAll]
      rcases List.mem_cons.1 ht with rfl | ht
      · omega
      · have := hb t ht; omega
set_option maxRecDepth 100000 in
/-- An argument of the type of slices of strings, and how much it holds. -/
theorem arg_strs {H : Type} {enc : TypeId × Value → H} {W : World} {v : Value} {d : DataW H} {ps : List MemPlace} (h : DataW.Trod enc Tryz.prog W 0 (fun _ => true) true 42 v d ps) (hv : v.cells.toList = [v]) (hbd : Rows.uptoBulk d ≤ 1048570) :
    ∃ l : List ByteArray, Ss W v l := by
  obtain ⟨n, hn⟩ := h
  rcases DataW.trod_slice Tryz.underlying42 hn with ⟨hcs, _⟩ | ⟨a, len, cap, elems, rest, m, rfl, hcs, hd, hb, hl, hm, hlen, hel, hsp, hns⟩
  · rw [hv] at hcs
    injection hcs with hcs
    subst hcs
    exact ⟨[], none, 0, rfl, Nat.le_refl _, by unfold maxLen; omega, by simp, .inl rfl⟩
  · rw [hv] at hcs
    injection hcs with hcs
    subst hcs
    injection hd with hd1 hd2
    subst hd1
    rw [cells9] at hel
    simp only [Rows.uptoBulk] at hbd
    have hadd : ∀ n, (a.add n).block = a.block ∧ (a.add n).off = a.off + n := by
      intro n; unfold Addr.add; split <;> simp_all
    have each : ∀ i (hi : i < len), ∃ s : ByteArray, (i = 0 → a.spot = none) ∧ W.cell? ⟨a.block, a.off + i, none⟩ = some (.string s) ∧ s.size + 1 ≤ Rows.uptoBulk (elems[i]'(by omega)).1 := by
      intro i hi
      have he := hel i hi
      rw [List.getElem?_eq_getElem (by omega), Option.bind_eq_some_iff] at he
      obtain ⟨ci, hci, htr⟩ := he
      obtain ⟨c, rfl, hsp, hk⟩ := cells_one hci
      rw [(hadd (i * 1)).1, (hadd (i * 1)).2, Nat.mul_one] at hk
      obtain ⟨s, hs, hx, -⟩ := DataW.trod_string Tryz.underlying9 htr
      injection hs with hs
      subst hs
      refine ⟨s, fun hi0 => ?_, hk, ?_⟩
      · subst hi0
        simpa [Addr.add] using hsp
      · rw [hx]
        simp only [Rows.uptoBulk, Array.length_toList]
        have e : s.data.size = s.size := rfl
        omega
    have hel' : elems.length = len := by omega
    by_cases h0 : len = 0
    · subst h0
      exact ⟨[], _, cap, rfl, Nat.zero_le _, hm, by simp, .inl rfl⟩
    · obtain ⟨-, hs, -⟩ := each 0 (by omega)
      obtain ⟨l, hll, hL, hMl⟩ := strs_of (W := W) (b := a.block) (elems.map (·.1)) a.off fun i hi => by
        obtain ⟨s, -, h1⟩ := each i (by simpa [hel'] using hi)
        exact ⟨s, by simp only [List.getElem_map]; exact h1⟩
      rw [List.length_map, hel'] at hll
      refine ⟨l, some a, cap, by rw [hll], by omega, hm, fun s hs => by have := hMl s hs; omega, .inr ⟨a.block, a.off, ?_, hL⟩⟩
      obtain ⟨b, o, sp⟩ := a
      have : sp = none := hs rfl
      subst this
      rfl
/-- A value holds more than its values and letters. -/
theorem bulk_val {H : Type} {enc : TypeId × Value → H} {W : World} {v : Value} {d : DataW H} {ps : List MemPlace} (h : DataW.Trod enc Tryz.prog W 0 (fun _ => true) true 29 v d ps) : 5 ≤ Rows.uptoBulk d := by
  obtain ⟨n, hn⟩ := h
  obtain ⟨xs, m, hcs0, hd, hl, hxl, hf⟩ := DataW.trod_struct Tryz.underlying29 hn
  injection hd with hd1 hd2
  subst hd1
  obtain ⟨x0, x1, x2, x3, rfl⟩ := four_list (show xs.length = 4 from hxl)
  have := bulk_pos x0.1
  have := bulk_pos x1.1
  have := bulk_pos x2.1
  have := bulk_pos x3.1
  simp only [List.map_cons, List.map_nil, Rows.uptoBulk, Rows.uptoBulkAll]
  omega
end Go.Proofs.YtbgikgeknnmelaaGreat
namespace Go.Proofs.YtbgikgeknnmelaaGreat.keysBegins
open Go.ChangeShapes Go.WideShapes Go.ChangeAt Go.RowKit
set_option linter.unusedVariables false      -- a walk need not use every condition

set_option maxRecDepth 100000 in
theorem lifted (os : Os) (started : os.Started) (H : Type) (enc : TypeId × Value → H) (F : Stop.Interp) :
    ReturnsInHanded {} Tryz.checked os 4 .any ((Rows.OpenSpec.upto Rows.keysBeginsSpec).pre6 enc Tryz.prog Tryz.f4 Rows.keysBeginsUptoRow.domain false) (((Rows.OpenSpec.upto Rows.keysBeginsSpec).at F).post enc Tryz.prog Tryz.f4 false true false false) := by
  refine returnsInHanded_of_cond_sized (C := Tryz.checked) (s := Rows.OpenSpec.upto Rows.keysBeginsSpec) (k := Rows.uptoSmall) rfl own started (by kernel_rfl) Tryz.func4
    (OpenSpec.witness (enc := enc) (C := Tryz.checked) (s := Rows.OpenSpec.upto Rows.keysBeginsSpec) (k := Rows.uptoSmall) rfl false ⟨#[], #[.agg #[.int .i64 0, .int .i64 0, .string ByteArray.empty, .slice none 0 0], .slice none 0 0, .slice none 0 0], []⟩ 8 (by kernel_rfl) (by kernel_rfl) (by kernel_rfl)
      (x := ([.agg [.lit (.int .i64 0), .lit (.int .i64 0), .lit (.string []), .nil], .nil, .nil], [], [])) (by kernel_rfl) rfl (by kernel_rfl)) ?_
  intro W base args ds gs before hval0 hW _ hk hsz0 _
  have hsz : (DataW.weightsEach Tryz.prog (Tryz.f4.params.toList ++ Rows.keysBeginsSpec.plain.varTypes Tryz.prog) (ds ++ gs)).all (· ≤ reachBytes) = true := hsz0
  clear hsz0
  have hval : ∀ (j : Nat) t v, Tryz.f4.params[j]? = some t → args[j]? = some v → Value.okWide Tryz.prog W .any base t v := hval0
  have hW' := hW
  obtain ⟨p, q, hA0, hV, rfl, hfz, hnd⟩ := hW
  have hA : DataW.TrodAll enc Tryz.prog W 0 (fun _ => true) true Tryz.f4.params.toList args.toList ds p := hA0
  rw [Tryz.params4] at hA hval hsz
  obtain ⟨v0, vs0, d0, ds0, p0, q0, hargs, rfl, rfl, h0, r0⟩ := trodAll_cons hA
  obtain ⟨v1, vs1, d1, ds1, p1, q1, rfl, rfl, rfl, h1, r1⟩ := trodAll_cons r0
  obtain ⟨v2, vs2, d2, ds2, p2, q2, rfl, rfl, rfl, h2, r2⟩ := trodAll_cons r1
  obtain ⟨rfl, rfl, rfl⟩ := trodAll_nil r2
  obtain rfl : args = #[v0, v1, v2] := by cases args; simp_all
  obtain ⟨rfl, rfl⟩ := trodVars_none hV
  have hbulk : Rows.uptoBulk d0 + (Rows.uptoBulk d1 + (Rows.uptoBulk d2 + 0)) ≤ 1048576 := by
    have h := of_decide_eq_true hk
    simp only [List.append_nil, Rows.uptoBulkAll] at h
    exact h
  have bp := bulk_val h0
  have bq := bulk_pos d2
  obtain ⟨x, sx, rfl, hx, mx⟩ := arg_valb (hval 0 29 v0 rfl rfl) h0 (weigh hsz (j := 0) (t := 29) rfl rfl)
  obtain ⟨a1, n1, c1, e1⟩ := okWide_slice Tryz.underlying42 (hval 1 42 v1 rfl rfl)
  obtain ⟨ls, hs⟩ := arg_strs h1 (by rw [e1]; exact slice_cells) (by omega)
  obtain ⟨a2, n2, c2, e2⟩ := okWide_slice Tryz.underlying27 (hval 2 27 v2 rfl rfl)
  obtain ⟨l2, s2, m2⟩ := arg_listb h2 (by rw [e2]; exact slice_cells) (weigh hsz (j := 2) (t := 27) rfl rfl)
  clear hA0 hval0
  simp only [List.append_nil] at hW'
  have lt0 : ∀ x ∈ p0, x.block < W.heap.size := by obtain ⟨m, hm⟩ := h0; exact DataW.trod_lt m _ _ _ hm
  have lt1 : ∀ x ∈ p1, x.block < W.heap.size := by obtain ⟨m, hm⟩ := h1; exact DataW.trod_lt m _ _ _ hm
  have lt2 : ∀ x ∈ p2, x.block < W.heap.size := by obtain ⟨m, hm⟩ := h2; exact DataW.trod_lt m _ _ _ hm
  refine (begins4 x sx ls v1 l2 v2 W hx (by omega) hs s2 (fun v hv => by have := many_mem hv; omega)).mono fun e W' ⟨he, bel⟩ => ?_
  subst he
  exact ⟨_, rfl, _, _, _, [], _, [], hW', trodAll_mk1 (shut_bool Tryz.underlying4 _), (trodAll_cons_mk (Below.trod laidOut read31 lt31 h0 bel lt0) (trodAll_cons_mk (Below.trod laidOut read42 lt42 h1 bel lt1) (trodAll_cons_mk (Below.trod laidOut read22 lt22 h2 bel lt2) trodAll_mk0))), rfl, bel.frame _, fun h => by cases h⟩

theorem over : Rows.keysBeginsUptoRow.holds Tryz.pinned (Rows.OpenSpec.upto Rows.keysBeginsSpec) :=
  OpenClaim.holds_of_cond 4 Tryz.f4 rfl rfl rfl rfl rfl rfl rfl ⟨rfl, rfl, rfl, rfl, rfl⟩ rfl rfl rfl rfl rfl (by kernel_rfl) Tryz.func4 (by kernel_rfl)
    (of_decide_eq_true (by kernel_rfl)) (by unfold Func.isWrapper; first | (rw [if_pos (by decide +kernel)]; kernel_rfl) | (rw [if_neg (by decide +kernel)]; exact ⟨rfl, rfl⟩))
    (fun os started H enc _ F => lifted os started H enc F)
end Go.Proofs.YtbgikgeknnmelaaGreat.keysBegins
namespace Go.Proofs.YtbgikgeknnmelaaGreat
/-- The given statement. -/
theorem keysBegins_holds : Rows.KeysBeginsUptoSaid := keysBegins.over
#print axioms keysBegins_holds
end Go.Proofs.YtbgikgeknnmelaaGreat
