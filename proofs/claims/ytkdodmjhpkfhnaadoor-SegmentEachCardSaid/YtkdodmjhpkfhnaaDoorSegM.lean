/-
  Code block segmentation: block sizes, layouts, offsets. Pure mathematics.
-/
import Derived.Test.YtkdodmjhpkfhnaaDoorCrcI
namespace Go.Proofs.YtkdodmjhpkfhnaaDoor

/-- k is a block size. -/
def IsSize (k : Nat) : Prop := (40 ≤ k ∧ k ≤ 512 ∧ k % 8 = 0) ∨ (528 ≤ k ∧ k ≤ 1024 ∧ k % 16 = 0) ∨ (1056 ≤ k ∧ k ≤ 2048 ∧ k % 32 = 0) ∨ (2112 ≤ k ∧ k ≤ 6144 ∧ k % 64 = 0)
instance (k : Nat) : Decidable (IsSize k) := by unfold IsSize; infer_instance
def nextN (n : Nat) : Nat :=
  if n ≤ 512 then 40 + (n - 40 + 7) / 8 * 8 else if n ≤ 1024 then 528 + (n - 528 + 15) / 16 * 16 else if n ≤ 2048 then 1056 + (n - 1056 + 31) / 32 * 32 else 2112 + (n - 2112 + 63) / 64 * 64
theorem nextN_size {n : Nat} (h : n ≤ 6144) : IsSize (nextN n) := by
  unfold nextN IsSize
  split
  · omega
  · split
    · omega
    · split <;> omega
theorem nextN_ge {n : Nat} (h : n ≤ 6144) : n ≤ nextN n ∧ nextN n ≤ 6144 := by
  unfold nextN
  split
  · omega
  · split
    · omega
    · split <;> omega
theorem nextN_least {n m : Nat} (h1 : n ≤ m) (h2 : m < nextN n) : ¬ IsSize m := by
  unfold nextN at h2
  unfold IsSize
  split at h2
  · omega
  · split at h2
    · omega
    · split at h2 <;> omega
theorem nextN_self {n : Nat} (h : n ≤ 6144) : nextN n = n ↔ IsSize n := by
  constructor
  · intro e; rw [← e]; exact nextN_size h
  · intro hs
    have h1 := nextN_ge h
    rcases Nat.lt_or_ge n (nextN n) with h2 | h2
    · exact absurd hs (nextN_least (Nat.le_refl _) h2)
    · omega
theorem nextN_lt {n : Nat} (h : n ≤ 6144) : nextN n ≤ max 40 (n + 63) := by
  unfold nextN
  split
  · omega
  · split
    · omega
    · split <;> omega
theorem nextN_great {n : Nat} (h : 3072 < n) : nextN n = 2112 + (n - 2112 + 63) / 64 * 64 := by
  unfold nextN
  rw [if_neg (by omega), if_neg (by omega), if_neg (by omega)]

def sizesL : List Nat := (List.range 60).map (fun i => 40 + 8 * i) ++ (List.range 32).map (fun i => 528 + 16 * i) ++ (List.range 32).map (fun i => 1056 + 32 * i) ++ (List.range 64).map (fun i => 2112 + 64 * i)
theorem sizesL_length : sizesL.length = 188 := by decide +kernel
theorem sizesL_filter : (List.range 6145).filter (fun k => decide (IsSize k)) = sizesL := by decide +kernel

structure Lay where
  bits : Nat
  blocks : Nat
  long : Nat
  short : Nat
  longs : Nat
  shorts : Nat
  filler : Nat
/-- The layout for b bits. -/
def planN (b : Nat) : Lay :=
  if b ≤ 6144 then ⟨b, 1, nextN b, 0, 1, 0, nextN b - b⟩
  else
    let c := (b + 6119) / 6120
    let t := b + 24 * c
    let k := nextN ((t + c - 1) / c)
    let s := (c * k - t) / 64
    ⟨b, c, k, k - 64, c - s, s, (c - s) * k + s * (k - 64) - t⟩
def Lay.cs (l : Lay) : Nat := if l.blocks = 1 then 0 else 24
def Lay.size (l : Lay) (i : Nat) : Nat := if i < l.shorts then l.short else l.long
def Lay.fill (l : Lay) (i : Nat) : Nat := if i = 0 then l.filler else 0
/-- How many of the bits lie in block i. -/
def Lay.data (l : Lay) (i : Nat) : Nat := l.size i - l.fill i - l.cs
def Lay.off (l : Lay) : Nat → Nat
  | 0 => 0
  | i + 1 => l.off i + l.data i

/-- What every layout fulfils. -/
structure Lay.Ok (l : Lay) : Prop where
  bits0 : 1 ≤ l.bits
  bits1 : l.bits ≤ 79560
  blocks0 : 1 ≤ l.blocks
  blocks1 : l.blocks ≤ 13
  longS : IsSize l.long
  long1 : l.long ≤ 6144
  shorts1 : l.shorts < l.blocks
  longs : l.longs + l.shorts = l.blocks
  filler : l.filler < 64
  one : l.blocks = 1 → l.short = 0 ∧ l.shorts = 0 ∧ l.long = l.bits + l.filler
  more : 1 < l.blocks → l.short + 64 = l.long ∧ 3072 ≤ l.short ∧ IsSize l.short
  total : l.longs * l.long + l.shorts * l.short = l.bits + l.filler + l.cs * l.blocks

theorem planN_one {b : Nat} (h2 : b ≤ 6144) : planN b = ⟨b, 1, nextN b, 0, 1, 0, nextN b - b⟩ := by unfold planN; rw [if_pos h2]
/-- The numbers of a layout of several blocks. -/
theorem plan_more {b c : Nat} (h1 : 6144 < b) (h2 : b ≤ 79560) (hc : c = (b + 6119) / 6120) :
    2 ≤ c ∧ c ≤ 13 ∧ 3072 < (b + 24 * c + c - 1) / c ∧ (b + 24 * c + c - 1) / c ≤ 6144 ∧ b + 24 * c ≤ c * nextN ((b + 24 * c + c - 1) / c) ∧
      c * nextN ((b + 24 * c + c - 1) / c) < b + 24 * c + 64 * c ∧ nextN ((b + 24 * c + c - 1) / c) % 64 = 0 := by
  have hcc : c = 2 ∨ c = 3 ∨ c = 4 ∨ c = 5 ∨ c = 6 ∨ c = 7 ∨ c = 8 ∨ c = 9 ∨ c = 10 ∨ c = 11 ∨ c = 12 ∨ c = 13 := by omega
  have hq : 3072 < (b + 24 * c + c - 1) / c ∧ (b + 24 * c + c - 1) / c ≤ 6144 := by
    rcases hcc with rfl | rfl | rfl | rfl | rfl | rfl | rfl | rfl | rfl | rfl | rfl | rfl <;> omega
  rw [nextN_great hq.1]
  refine ⟨by omega, by omega, hq.1, hq.2, ?_⟩
  clear hq
  rcases hcc with rfl | rfl | rfl | rfl | rfl | rfl | rfl | rfl | rfl | rfl | rfl | rfl <;> omega
theorem planN_more {b : Nat} (h1 : 6144 < b) : planN b = (fun c k => (⟨b, c, k, k - 64, c - (c * k - (b + 24 * c)) / 64, (c * k - (b + 24 * c)) / 64, (c - (c * k - (b + 24 * c)) / 64) * k + (c * k - (b + 24 * c)) / 64 * (k - 64) - (b + 24 * c)⟩ : Lay)) ((b + 6119) / 6120) (nextN ((b + 24 * ((b + 6119) / 6120) + (b + 6119) / 6120 - 1) / ((b + 6119) / 6120))) := by
  unfold planN
  rw [if_neg (by omega)]
theorem mix_total {c k s : Nat} (hs : s ≤ c) (hk : 64 ≤ k) : (c - s) * k + s * (k - 64) = c * k - 64 * s ∧ 64 * s ≤ c * k := by
  obtain ⟨d, rfl⟩ : ∃ d, c = s + d := ⟨c - s, by omega⟩
  obtain ⟨m, rfl⟩ : ∃ m, k = m + 64 := ⟨k - 64, by omega⟩
  rw [Nat.add_sub_cancel_left, Nat.add_sub_cancel]
  have h1 : (s + d) * (m + 64) = s * m + d * (m + 64) + 64 * s := by
    rw [Nat.add_mul, Nat.mul_add s, Nat.mul_comm s 64]; omega
  constructor
  · rw [h1]; omega
  · rw [h1]; omega
theorem planN_ok {b : Nat} (h1 : 1 ≤ b) (h2 : b ≤ 79560) : (planN b).Ok ∧ (planN b).bits = b := by
  rcases Nat.lt_or_ge 6144 b with h | h
  · obtain ⟨c, hc⟩ : ∃ c, c = (b + 6119) / 6120 := ⟨_, rfl⟩
    obtain ⟨c2, c13, q1, q2, lo, hi, hm⟩ := plan_more h h2 hc
    rw [planN_more h, ← hc]
    have hkS := nextN_size q2
    have hkL := nextN_ge q2
    generalize nextN ((b + 24 * c + c - 1) / c) = k at *
    clear hc
    dsimp only
    have hk0 : 64 ≤ k := by omega
    have hs : (c * k - (b + 24 * c)) / 64 < c := by omega
    obtain ⟨e1, e2⟩ := mix_total (Nat.le_of_lt hs) hk0
    generalize hS : (c * k - (b + 24 * c)) / 64 = s at *
    refine ⟨⟨h1, h2, by simp only; omega, c13, hkS, hkL.2, hs, by simp only; omega, ?_, by simp only; omega, ?_, ?_⟩, rfl⟩
    · simp only
      rw [e1]; omega
    · intro _
      refine ⟨by simp only; omega, by simp only; omega, ?_⟩
      simp only
      unfold IsSize
      omega
    · simp only [Lay.cs]
      rw [if_neg (by omega), e1]
      omega
  · rw [planN_one h]
    have hg := nextN_ge h
    have hl := nextN_lt h
    refine ⟨⟨h1, h2, Nat.le_refl _, show 1 ≤ 13 by decide, nextN_size h, hg.2, show 0 < 1 by decide, rfl, ?_, ?_, ?_, ?_⟩, rfl⟩
    · simp only
      rcases Nat.lt_or_ge b 40 with h40 | h40
      · have : nextN b = 40 := by unfold nextN; rw [if_pos (by omega)]; omega
        omega
      · omega
    · intro _; exact ⟨rfl, rfl, by simp only; omega⟩
    · intro h; simp only at h; omega
    · simp [Lay.cs]; omega

section
variable {l : Lay}
theorem Lay.Ok.cs_le (_h : l.Ok) : l.cs ≤ 24 := by unfold Lay.cs; split <;> omega
theorem Lay.Ok.size_le (h : l.Ok) (i : Nat) : l.size i ≤ 6144 := by
  have := h.long1
  unfold Lay.size
  split
  · rcases Nat.lt_or_ge 1 l.blocks with h1 | h1
    · have := (h.more h1).1; omega
    · have := (h.one (by have := h.blocks0; omega)).2.1; omega
  · exact h.long1
theorem Lay.Ok.size_S (h : l.Ok) {i : Nat} (_hi : i < l.blocks) : IsSize (l.size i) := by
  unfold Lay.size
  split
  · rcases Nat.lt_or_ge 1 l.blocks with h1 | h1
    · exact (h.more h1).2.2
    · have := (h.one (by have := h.blocks0; omega)).2.1; omega
  · exact h.longS
theorem Lay.Ok.room (h : l.Ok) {i : Nat} (hi : i < l.blocks) : l.fill i + l.cs + l.data i = l.size i ∧ 1 ≤ l.data i := by
  have h0 : l.fill i + l.cs + 1 ≤ l.size i := by
    rcases Nat.lt_or_ge 1 l.blocks with h1 | h1
    · have hm := h.more h1
      have hf := h.filler
      have hc := h.cs_le
      have : 3072 ≤ l.size i := by unfold Lay.size; split <;> omega
      have : l.fill i ≤ l.filler := by unfold Lay.fill; split <;> omega
      omega
    · have hb : l.blocks = 1 := by have := h.blocks0; omega
      obtain ⟨_, e1, e2⟩ := h.one hb
      have h3 := h.bits0
      have : l.cs = 0 := by unfold Lay.cs; rw [if_pos hb]
      have : l.size i = l.long := by unfold Lay.size; rw [if_neg (by omega)]
      have : l.fill i ≤ l.filler := by unfold Lay.fill; split <;> omega
      omega
  unfold Lay.data
  omega
theorem Lay.Ok.off_sum (h : l.Ok) : ∀ i, i ≤ l.blocks → l.off i + (if i = 0 then 0 else l.filler) + l.cs * i = if i ≤ l.shorts then i * l.short else l.shorts * l.short + (i - l.shorts) * l.long := by
  intro i
  induction i with
  | zero => intro _; simp [Lay.off]
  | succ i ih =>
    intro hi
    have h1 := ih (by omega)
    have h2 := (h.room (i := i) (by omega)).1
    have hf : l.fill i = if i = 0 then l.filler else 0 := rfl
    have hf2 : (if i = 0 then 0 else l.filler) + l.fill i = l.filler := by rw [hf]; split <;> omega
    have hL : l.off (i + 1) + (if i + 1 = 0 then 0 else l.filler) + l.cs * (i + 1) = (l.off i + (if i = 0 then 0 else l.filler) + l.cs * i) + l.size i := by
      rw [show l.off (i + 1) = l.off i + l.data i from rfl, if_neg (by omega), Nat.mul_succ]
      omega
    rw [hL, h1]
    unfold Lay.size
    rcases Nat.lt_trichotomy i l.shorts with h3 | h3 | h3
    · rw [if_pos (by omega), if_pos h3, if_pos (by omega), Nat.succ_mul]
    · subst h3
      rw [if_pos (Nat.le_refl _), if_neg (Nat.lt_irrefl _), if_neg (by omega)]
      rw [show l.shorts + 1 - l.shorts = 1 by omega, Nat.one_mul]
    · rw [if_neg (by omega), if_neg (by omega), if_neg (by omega)]
      rw [show i + 1 - l.shorts = (i - l.shorts) + 1 by omega, Nat.succ_mul]
      omega
theorem Lay.Ok.off_all (h : l.Ok) : l.off l.blocks = l.bits := by
  have h1 := h.off_sum l.blocks (Nat.le_refl _)
  have h2 := h.shorts1
  have h3 := h.blocks0
  rw [if_neg (by omega), if_neg (by omega)] at h1
  have h4 := h.total
  have h5 : l.blocks - l.shorts = l.longs := by have := h.longs; omega
  rw [h5] at h1
  omega
theorem Lay.off_mono (l : Lay) {i j : Nat} (h : i ≤ j) : l.off i ≤ l.off j := by
  induction j with
  | zero => obtain rfl : i = 0 := by omega
            exact Nat.le_refl _
  | succ j ih =>
    rcases Nat.lt_or_ge i (j + 1) with h1 | h1
    · have := ih (by omega)
      rw [show l.off (j + 1) = l.off j + l.data j from rfl]
      omega
    · obtain rfl : i = j + 1 := by omega
      exact Nat.le_refl _
theorem Lay.Ok.off_le (h : l.Ok) {i : Nat} (hi : i ≤ l.blocks) : l.off i ≤ l.bits := by rw [← h.off_all]; exact l.off_mono hi
end

def zerosI (n : Nat) : List Int := List.replicate n 0
/-- The data of block i with the filler bits ahead. -/
def Lay.part (l : Lay) (xs : List Int) (i : Nat) : List Int := zerosI (l.fill i) ++ (xs.drop (l.off i)).take (l.data i)
def Lay.block (l : Lay) (xs : List Int) (i : Nat) : List Int := if l.blocks = 1 then l.part xs i else l.part xs i ++ crcI 2 (l.part xs i)
def splitL (xs : List Int) : List (List Int) := (List.range (planN xs.length).blocks).map ((planN xs.length).block xs)
end Go.Proofs.YtkdodmjhpkfhnaaDoor
