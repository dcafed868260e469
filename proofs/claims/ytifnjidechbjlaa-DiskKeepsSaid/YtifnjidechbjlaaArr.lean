/-
  An array of eight sectors in memory; the sectors that are read behind a crash, one by one.
-/
import Derived.Test.YtifnjidechbjlaaKeepM
namespace Go.Proofs.Ytifnjidechbjlaa
open Go.RowKit Go.Maps

def secs (f : Nat → List UInt8) : Nat → List Value
  | 0 => []
  | n + 1 => secs f n ++ enc (f n)
theorem len_secs {f : Nat → List UInt8} : ∀ {n : Nat}, (∀ k, k < n → (f k).length = 128) → (secs f n).length = n * 128
  | 0, _ => by simp [secs]
  | n + 1, h => by
    rw [secs, List.length_append, len_secs (fun k hk => h k (by omega)), len_enc, h n (by omega)]
    omega
theorem secs_at {f : Nat → List UInt8} : ∀ {n : Nat}, (∀ k, k < n → (f k).length = 128) → ∀ k, k < n → ∀ r, r < 128 → (secs f n)[k * 128 + r]? = (enc (f k))[r]?
  | 0, _, k, hk, _, _ => by omega
  | n + 1, h, k, hk, r, hr => by
    have hl := len_secs (f := f) (n := n) (fun k hk => h k (by omega))
    rw [secs]
    by_cases e : k = n
    · subst e
      rw [List.getElem?_append_right (by omega), hl]
      congr 1; omega
    · rw [List.getElem?_append_left (by omega)]
      exact secs_at (fun k hk => h k (by omega)) k (by omega) r hr
theorem one_secs (f : Nat → List UInt8) : ∀ (n : Nat), ∀ v ∈ secs f n, v.oneCell' = true
  | 0, v, hv => by simp [secs] at hv
  | n + 1, v, hv => by
    rw [secs] at hv
    rcases List.mem_append.1 hv with h | h
    · exact one_secs f n v h
    · exact one_enc _ v h
structure Arr (w : World) (g : Nat) (f : Nat → List UInt8) : Prop where
  at_ : ∀ k, k < 8 → w.rangeAt g (k * 128) (enc (f k))
  len : ∀ k, k < 8 → (f k).length = 128
  th : w.there g 0 1024
theorem Arr.whole {w : World} {g : Nat} {f : Nat → List UInt8} (h : Arr w g f) : w.rangeAt g 0 (secs f 8) := fun j v hv => by
  have hj : j < 1024 := by have := (List.getElem?_eq_some_iff.1 hv).1; rw [len_secs h.len] at this; omega
  have e : (j / 128) * 128 + j % 128 = j := by omega
  have := h.at_ (j / 128) (by omega) (j % 128) v (by rw [← secs_at h.len (j / 128) (by omega) (j % 128) (by omega), e]; exact hv)
  rw [e] at this
  simpa using this
theorem Arr.of_whole {w : World} {g : Nat} {f : Nat → List UInt8} (h : w.rangeAt g 0 (secs f 8)) (hl : ∀ k, k < 8 → (f k).length = 128) (ht : w.there g 0 1024) : Arr w g f :=
  ⟨fun k hk j v hv => by
    have hj : j < 128 := by have := (List.getElem?_eq_some_iff.1 hv).1; rw [len_enc, hl k hk] at this; exact this
    have := h (k * 128 + j) v (by rw [secs_at hl k hk j hj]; exact hv)
    simpa using this, hl, ht⟩
theorem Arr.same {w w' : World} {g : Nat} {f : Nat → List UInt8} (h : Arr w g f) (e : w'.heap[g]? = w.heap[g]?) : Arr w' g f := ⟨fun k hk => rangeAt_same (h.at_ k hk) e, h.len, there_same h.th e⟩
theorem Arr.lt {w : World} {g : Nat} {f : Nat → List UInt8} (h : Arr w g f) : g < w.heap.size := by
  obtain ⟨u, hu⟩ := Option.isSome_iff_exists.1 (h.th 0 (by omega)).1
  exact World.block_lt_of_cell? w ⟨g, 0 + 0, none⟩ hu
theorem Arr.on {w w' : World} {g : Nat} {f : Nat → List UInt8} (h : Arr w g f) (hB : Below w.heap.size w w') : Arr w' g f := h.same (hB.block g h.lt)
theorem Arr.kept {w w' : World} {d pb mb g : Nat} {f : Nat → List UInt8} (h : Arr w g f) (k : Kept d pb mb w w') (h1 : g ≠ d) (h2 : g ≠ pb) (h3 : g ≠ mb) : Arr w' g f := h.same (k.block g h.lt h1 h2 h3)
theorem Arr.grown {w w' : World} {g b : Nat} {f : Nat → List UInt8} (h : Arr w g f) (hg : w.grownBy w' (some b)) (h1 : g ≠ b) : Arr w' g f := h.same (hg.block g h.lt (fun e => h1 (by injection e)))
theorem Arr.th_at {w : World} {g k : Nat} {f : Nat → List UInt8} (h : Arr w g f) (hk : k < 8) : w.there g (k * 128) 128 := fun j hj => by
  have := h.th (k * 128 + j) (by omega)
  simpa using this
theorem Arr.set {w : World} {g k : Nat} {f : Nat → List UInt8} (h : Arr w g f) (hk : k < 8) {bs : List UInt8} (hl : bs.length = 128) : Arr (w.setCells g (k * 128) (enc bs)) g (upd f k bs) := by
  refine ⟨fun j hj => ?_, fun j hj => ?_, World.there_setCells h.th _ _ _⟩
  · by_cases e : j = k
    · subst e
      rw [upd_same]
      exact World.rangeAt_setCells_same w g (j * 128) (enc bs) (by rw [len_enc, hl]; exact h.th_at hk)
    · rw [upd_other _ _ e]
      refine World.rangeAt_setCells_apart (h.at_ j hj) g (k * 128) (enc bs) (.inr ?_)
      rw [len_enc, len_enc, hl, h.len j hj]
      omega
  · by_cases e : j = k
    · subst e; rw [upd_same]; exact hl
    · rw [upd_other _ _ e]; exact h.len j hj
set_option maxRecDepth 100000 in
theorem zc49 : Try.zeroCells49 = (secs (fun _ => zer) 8).toArray := by kernel_rfl
theorem size49 : (Try.prog.info? 49).map (·.size) = some 1024 := by kernel_rfl
theorem Arr.new (w : World) : Arr (w.alloc (.cells Try.zeroCells49 49)) w.heap.size (fun _ => zer) := by
  rw [zc49]
  have hl : (secs (fun _ => zer) 8).length = 1024 := len_secs fun _ _ => len_zer
  refine Arr.of_whole (range_new w _ 49) (fun _ _ => len_zer) ?_
  have := there_new w (secs (fun _ => zer) 8).toArray 49
  rwa [show (secs (fun _ => zer) 8).toArray.size = 1024 from hl] at this
theorem Arr.copy {w : World} {g g' : Nat} {f f' : Nat → List UInt8} (h : Arr w g f) (h' : Arr w g' f') : Arr (w.setCells g' 0 (secs f 8)) g' f :=
  Arr.of_whole (World.rangeAt_setCells_same w g' 0 _ (by rw [len_secs h.len]; exact h'.th)) h.len (World.there_setCells h'.th _ _ _)

theorem wpList_want {P : Program} {ops : Array Oper} {Q : Exit → Act → World → Prop} {a : Act} {w : World} {rest : List Oper} {o : Oper} (hw : Region.wanted o (yielded ops a.tmps) = true)
    (h : ∀ K : Act → World → Prop, (∀ a w, wpList P ops Q rest a w → K a w) → o.wp P a w K Q) : wpList P ops Q (o :: rest) a w :=
  wpList_step fun K hK => by rw [if_pos hw]; exact h K hK

/-- A step of a region that draws its order, the place that it fills written out. -/
theorem take_at {P : Program} {md : Region.Mode} {ops : Array Oper} {Q : Exit → Act → World → Prop} {S : World → Prop} {i : Nat} {oi : Oper} {v : Value} {fuel : Nat} {listed : Array Bool} {a : Act} {w : World} (t : Tmp) (hi : ops[i]? = some oi) (hd : oi.dst = some t)
    (hs : Region.noSelect ops = true) (hf : Region.free md ops listed i = true) (hr : (Region.ready md ops listed).contains i = true)
    (hQ : ∀ c a w, Q (.panic c) (a.put (some t) v) w → Q (.panic c) a w) (hy : YieldsIf P ops S oi v a) (hS : S w)
    (h : wpAnyH P md ops Q S fuel (listed.setIfInBounds i true) (a.put (some t) v) w) : wpAnyH P md ops Q S (fuel + 1) listed a w :=
  wpAnyH_take hi hs hf hr (by rw [hd]; exact hQ) hy hS (by rw [hd]; exact h)

/-! ### The reading -/

/-- Those from n on are as they were; the power is there. -/
structure Rg (s0 : Dsk) (n : Nat) (s : Dsk) : Prop where
  N : s.N = 8
  down : s.down = false
  fuse : s.fuse = 0
  still : ∀ k, n ≤ k → k < 8 → s.st k = s0.st k ∧ s.tn k = s0.tn k ∧ s.ca k = none
theorem Rg.start {s : Dsk} {f g : Nat → List UInt8} {L : List Nat} {T : Option Nat} (h : Lf s f g L T) : Rg s 0 s := ⟨h.N, h.down, h.fuse, fun k _ hk => ⟨rfl, rfl, h.ca k hk⟩⟩
theorem Rg.next {s0 s : Dsk} {n : Nat} (h : Rg s0 n s) : Rg s0 (n + 1) s := ⟨h.N, h.down, h.fuse, fun k h1 hk => h.still k (by omega) hk⟩
theorem Rg.reach {s0 s : Dsk} {n : Nat} (h : Rg s0 n s) (hn : n < 8) : s.reach n = 0 := by
  unfold Dsk.reach Dsk.hasB
  rw [h.down, h.N]
  have h1 : (n : Int) < 8 := by omega
  have h2 : (0 : Int) ≤ n := by omega
  simp [h1]
theorem Rg.read {s0 s : Dsk} {n : Nat} (h : Rg s0 n s) (hn : n < 8) : s.read n = if s0.tn n then (zer, 40) else (s0.st n, 0) := by
  obtain ⟨h1, h2, h3⟩ := h.still n (Nat.le_refl _) hn
  unfold Dsk.read
  rw [if_neg (fun e => e (h.reach hn)), Int.toNat_natCast, h1, h2, h3]
theorem Rg.write {s0 s : Dsk} {n : Nat} (h : Rg s0 n s) (hn : n < 8) (bs : List UInt8) : (s.write n bs).1 = 0 ∧ Rg s0 (n + 1) (s.write n bs).2 ∧ (s.write n bs).2.read n = (bs, 0) := by
  have hc : s.call = (0, { s with calls := wrap64 (s.calls + 1) }) := by
    unfold Dsk.call
    rw [if_neg (by rw [h.fuse]; decide), if_neg (by rw [h.fuse]; decide)]
  have e : s.write n bs = (0, { s.call.2 with ca := upd s.call.2.ca n (some bs) }) := by
    unfold Dsk.write
    rw [if_neg (fun e => e (h.reach hn)), if_neg (fun e => e (by rw [hc])), Int.toNat_natCast]
  rw [e, hc]
  refine ⟨rfl, ⟨h.N, h.down, h.fuse, fun k h1 hk => ?_⟩, ?_⟩
  · obtain ⟨q1, q2, q3⟩ := h.still k (by omega) hk
    refine ⟨q1, q2, ?_⟩
    show upd s.ca n (some bs) k = none
    rw [upd_other _ _ (by omega)]
    exact q3
  · have hr : ({ s with calls := wrap64 (s.calls + 1), ca := upd s.ca n (some bs) } : Dsk).reach n = 0 := by
      have := h.reach hn
      exact this
    unfold Dsk.read
    show (if ({ s with calls := wrap64 (s.calls + 1), ca := upd s.ca n (some bs) } : Dsk).reach n ≠ 0 then _ else _) = _
    rw [if_neg (fun e => e hr), Int.toNat_natCast]
    show (match upd s.ca n (some bs) n with | some bs => (bs, (0 : Int)) | none => _) = _
    rw [upd_same]
/-- How many torn ones stand below n. -/
def cnt (T : Option Nat) (n : Nat) : Nat := match T with | some k => if k < n then 1 else 0 | none => 0
theorem cnt_zero (T : Option Nat) : cnt T 0 = 0 := by cases T <;> simp [cnt]
theorem cnt_le (T : Option Nat) (n : Nat) : cnt T n ≤ 1 := by
  cases T
  · simp [cnt]
  · unfold cnt
    simp only
    split <;> omega
theorem cnt_yes {T : Option Nat} {n : Nat} (h : T = some n) : cnt T (n + 1) = cnt T n + 1 := by subst h; simp [cnt]
theorem cnt_no {T : Option Nat} {n : Nat} (h : T ≠ some n) : cnt T (n + 1) = cnt T n := by
  cases T with
  | none => rfl
  | some k =>
    have hk : k ≠ n := fun e => h (by rw [e])
    unfold cnt
    simp only
    by_cases h1 : k < n
    · rw [if_pos h1, if_pos (by omega)]
    · rw [if_neg h1, if_neg (by omega)]
end Go.Proofs.Ytifnjidechbjlaa
