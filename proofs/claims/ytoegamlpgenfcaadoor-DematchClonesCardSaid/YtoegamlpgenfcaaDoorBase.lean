/-
  Words for memory over any program: a slice of integers that reads as a list (nil included). Nothing of the dump is named here.
-/
import Derived.Below
import Derived.Laws.OwnMore
import Derived.Deep.Draws
import Derived.Lib.Hide
import Derived.Deep.AppendLies
import Derived.Laws.BytesArg
namespace Go.Proofs.YtoegamlpgenfcaaDoor
open Go.RowKit

theorem below_drewN {B : Nat} {a w : World} (h : Below B a w) (k : Nat) : Below B a (w.drewN k) := ⟨h.os, h.tape, h.output, h.size, h.block⟩

/-- The slice value '.slice A n c' reads, in the world w, as the integers xs of kind q; its cells lie below block B. -/
structure Rd (q : IntKind) (w : World) (B : Nat) (A : Option Addr) (n : Nat) (xs : List Int) : Prop where
  len : xs.length = n
  cells : ∀ k, k < n → ∃ b off, A = some ⟨b, off, none⟩ ∧ b < B ∧ w.cell? ⟨b, off + k, none⟩ = some (.int q (xs[k]?.getD 0))

section
variable {q : IntKind} {w w' : World} {B B' n : Nat} {A : Option Addr} {xs : List Int}
theorem Rd.nil (q : IntKind) (w : World) (B : Nat) (A : Option Addr) : Rd q w B A 0 [] := ⟨rfl, fun k h => absurd h (Nat.not_lt_zero k)⟩
theorem Rd.keep (h : Rd q w B A n xs) (hk : ∀ p : Addr, p.block < B → w'.cell? p = w.cell? p) : Rd q w' B A n xs :=
  ⟨h.len, fun k hn => by
    obtain ⟨b, off, e, hb, hc⟩ := h.cells k hn
    exact ⟨b, off, e, hb, (hk ⟨b, off + k, none⟩ hb).trans hc⟩⟩
theorem Rd.more (h : Rd q w B A n xs) (hB : B ≤ B') : Rd q w B' A n xs :=
  ⟨h.len, fun k hn => by
    obtain ⟨b, off, e, hb, hc⟩ := h.cells k hn
    exact ⟨b, off, e, Nat.lt_of_lt_of_le hb hB, hc⟩⟩
theorem Rd.below (h : Rd q w B A n xs) (hb : Below B w w') : Rd q w' B A n xs := h.keep fun _ hp => hb.cell hp
theorem Rd.below' (h : Rd q w B A n xs) (hb : Below B' w w') (hB : B ≤ B') : Rd q w' B A n xs := h.keep fun _ hp => hb.cell (Nat.lt_of_lt_of_le hp hB)
theorem Rd.drew (h : Rd q w B A n xs) : Rd q w.drew B A n xs := ⟨h.len, h.cells⟩
theorem Rd.drewN (h : Rd q w B A n xs) (k : Nat) : Rd q (w.drewN k) B A n xs := ⟨h.len, h.cells⟩
theorem Rd.alloc (h : Rd q w B A n xs) (hB : B ≤ w.heap.size) (o : Obj) : Rd q (w.alloc o) B A n xs := h.keep fun p hp => World.cell?_alloc_lt w o p (by omega)
theorem Rd.setCell (h : Rd q w B A n xs) {p : Addr} (hB : B ≤ p.block) (u : Value) : Rd q (w.setCell p u) B A n xs :=
  h.keep fun r hr => World.cell?_setCell_other w p r u (fun e => by subst e; omega)
theorem Rd.grown (h : Rd q w B A n xs) {row : Option Nat} (hg : w.grownBy w' row) (hB : B ≤ w.heap.size) (hr : ∀ g, row = some g → B ≤ g) : Rd q w' B A n xs :=
  h.keep fun p hp => World.cell?_of_block (hg.block p.block (by omega) (fun e => by have := hr _ e.symm; omega))
/-- A part of the slice, 's[lo:hi]': the address as the walk makes it. -/
theorem Rd.cut (h : Rd q w B A n xs) {lo hi cap : Nat} (hlo : lo ≤ hi) (hhi : hi ≤ n) (hc : n ≤ cap) :
    Rd q w B (if cap = lo then A else A.map (·.add lo)) (hi - lo) ((xs.drop lo).take (hi - lo)) := by
  refine ⟨by rw [List.length_take, List.length_drop, h.len]; omega, fun k hk => ?_⟩
  obtain ⟨b, off, rfl, hb, hcell⟩ := h.cells (lo + k) (by omega)
  rw [if_neg (by omega)]
  refine ⟨b, off + lo, ?_, hb, ?_⟩
  · by_cases h0 : lo = 0 <;> simp [Addr.add, h0]
  · rw [Nat.add_assoc, hcell, List.getElem?_take, if_pos hk, List.getElem?_drop]
theorem Rd.of_own {base : Nat} {e : TypeId} {c : Nat} (h : w.ownsRow base e 1 (.slice A n c) n (xs.map (Value.int q))) : Rd q w w.heap.size A n xs := by
  refine ⟨by have := h.1; simpa using this, fun k hk => ?_⟩
  obtain ⟨g, cap, hv, _, hlt⟩ := h.form (by omega)
  have hA : A = some ⟨g, 0, none⟩ := by injection hv
  subst hA
  refine ⟨g, 0, rfl, hlt, ?_⟩
  have hl : k < xs.length := by have := h.1; simp at this; omega
  have := h.cells (g := g) rfl k (.int q (xs[k]?.getD 0)) (by simp [hl])
  by_cases h0 : k = 0 <;> simpa [Addr.add, h0] using this
end

section
variable {P : Program} {w : World} {B n : Nat} {A : Option Addr} {xs : List Int}
theorem Rd.convert (h : Rd .u8 w B A n xs) {src e : TypeId} (hs : P.underlying src = some (.slice e)) (he : P.underlying e = some (.int .u8)) (c : Nat) :
    ∀ dst, P.underlying dst = some .string → (convert src dst (.slice A n c)).run P w = .ok (.string (strOfNums xs)) w := by
  rcases Nat.eq_zero_or_pos n with h0 | h0
  · subst h0
    obtain rfl : xs = [] := List.eq_nil_of_length_eq_zero h.len
    rcases A with _ | a
    · exact run_convert_bytes_nil w src e hs he 0 c
    · intro dst hd
      have hl : (loadCells a 0).run P w = .ok ((([] : List Int).map (Value.int .u8)).toArray) w := by
        have := run_loadCells_list (P := P) w a (([] : List Int).map (Value.int .u8)) (fun j v hj => by simp at hj)
        simpa using this
      rw [run_convert_bytes_string w src dst e _ 0 c hs he hd, run_bytesToString w _ 0 c [] hl, foldl_push_bytes]
      simp [strOfNums, ByteArray.empty, ByteArray.emptyWithCapacity]
      rfl
  · obtain ⟨b, off, rfl, _, _⟩ := h.cells 0 h0
    refine run_convert_bytes_arg w src e hs he b off n c xs h.len fun i hi => ?_
    obtain ⟨b', off', e', _, hc⟩ := h.cells i hi
    injection e' with e'
    injection e' with e1 e2
    subst e1 e2
    rw [hc, List.getD_eq_getElem?_getD]
end

/-- One byte slice among many: its address, length, capacity, and what it reads as. -/
structure BRow where
  a : Option Addr
  n : Nat
  c : Nat
  xs : List Int
/-- The slice of byte slices '.slice A n _' reads as the rows. -/
structure Rds (w : World) (B : Nat) (A : Option Addr) (n : Nat) (rows : List BRow) : Prop where
  len : rows.length = n
  cells : ∀ k, k < n → ∃ b off r, A = some ⟨b, off, none⟩ ∧ b < B ∧ rows[k]? = some r ∧ w.cell? ⟨b, off + k, none⟩ = some (.slice r.a r.n r.c) ∧ Rd .u8 w B r.a r.n r.xs
section
variable {w w' : World} {B B' n : Nat} {A : Option Addr} {rows : List BRow}
theorem Rds.keep (h : Rds w B A n rows) (hk : ∀ p : Addr, p.block < B → w'.cell? p = w.cell? p) : Rds w' B A n rows :=
  ⟨h.len, fun k hn => by
    obtain ⟨b, off, r, e, hb, hr, hc, hR⟩ := h.cells k hn
    exact ⟨b, off, r, e, hb, hr, (hk ⟨b, off + k, none⟩ hb).trans hc, hR.keep hk⟩⟩
theorem Rds.below (h : Rds w B A n rows) (hb : Below B w w') : Rds w' B A n rows := h.keep fun _ hp => hb.cell hp
theorem Rds.more (h : Rds w B A n rows) (hB : B ≤ B') : Rds w B' A n rows :=
  ⟨h.len, fun k hn => by
    obtain ⟨b, off, r, e, hb, hr, hc, hR⟩ := h.cells k hn
    exact ⟨b, off, r, e, by omega, hr, hc, hR.more hB⟩⟩
end

/-- The bytes' range. -/
def Byte (xs : List Int) : Prop := ∀ k : Nat, 0 ≤ xs[k]?.getD 0 ∧ xs[k]?.getD 0 ≤ 255
theorem Byte.of_mem {xs : List Int} (h : ∀ x ∈ xs, 0 ≤ x ∧ x ≤ 255) : Byte xs := fun k => by
  rcases Nat.lt_or_ge k xs.length with hk | hk
  · simp [hk]; exact h _ (List.getElem_mem hk)
  · simp [hk]
theorem Byte.mem {xs : List Int} (h : Byte xs) : ∀ x ∈ xs, 0 ≤ x ∧ x ≤ 255 := fun x hx => by
  obtain ⟨k, hk, rfl⟩ := List.getElem_of_mem hx
  have := h k
  simpa [hk] using this

theorem strOfNums_inj {xs ys : List Int} (hx : Byte xs) (hy : Byte ys) (h : strOfNums xs = strOfNums ys) : xs = ys := by
  have h1 : xs.map (fun n => UInt8.ofNat n.toNat) = ys.map (fun n => UInt8.ofNat n.toNat) := by
    have := congrArg (fun s : ByteArray => s.data.toList) h
    simpa only [strOfNums_data] using this
  have hl : xs.length = ys.length := by simpa using congrArg List.length h1
  apply List.ext_getElem hl
  intro k h2 h3
  have h4 := congrArg (fun l => l[k]?) h1
  simp only [List.getElem?_map, List.getElem?_eq_getElem h2, List.getElem?_eq_getElem h3, Option.map_some, Option.some.injEq] at h4
  have a := hx.mem _ (List.getElem_mem h2)
  have b := hy.mem _ (List.getElem_mem h3)
  have h5 := congrArg UInt8.toNat h4
  simp only [UInt8.toNat_ofNat'] at h5
  omega
theorem ret_bool {a b : Bool} (h : a = b) : Ending.returned (.bool a) = .returned (.bool b) := by rw [h]
theorem ret_int {q : IntKind} {a b : Int} (h : a = b) : Ending.returned (.int q a) = .returned (.int q b) := by rw [h]
/-- A function hands back a byte slice of its own, with the elements xs, and an integer; what was there is as it was. (T: the number of the element type.) -/
def RetBytes (T : TypeId) (w : World) (r : List Int × Int) (e : Ending) (w' : World) : Prop :=
  ∃ A c, e = .returned (.tuple #[.slice A r.1.length c, .int .i64 r.2]) ∧ w'.ownsRow w.heap.size T 1 (.slice A r.1.length c) r.1.length (r.1.map (Value.int .u8)) ∧ Below w.heap.size w w'
theorem RetBytes.nil_ {T : TypeId} {w w' : World} {k : Int} (hb : Below w.heap.size w w') : RetBytes T w ([], k) (.returned (.tuple #[.slice none 0 0, .int .i64 k])) w' := ⟨none, 0, rfl, by simpa using World.ownsRow_nil w' w.heap.size T 1, hb⟩
end Go.Proofs.YtoegamlpgenfcaaDoor
