/-
  SOURCE: TEXTS AS LISTS OF BYTES.
-/
import Derived.Test.YtlabofafmcbfmaaGreatDoorKBase
import Derived.Laws.RangeAny
import Derived.Lib.RuneLoops
namespace Go.Proofs.YtlabofafmcbfmaaGreatDoor
open Go.RowKit Go.Sort

/-- signs as a text -/
def S (l : List UInt8) : ByteArray := ⟨l.toArray⟩
theorem S_app (a b : List UInt8) : S a ++ S b = S (a ++ b) := ByteArray.mk_append_mk a b
theorem S_size (l : List UInt8) : (S l).size = l.length := by simp [S, ByteArray.size]
theorem S_of (s : ByteArray) : S s.data.toList = s := by simp [S]
theorem S_list (l : List UInt8) : (S l).data.toList = l := by simp [S]
theorem S_inj {a b : List UInt8} (h : S a = S b) : a = b := by
  have h1 : (S a).data.toList = (S b).data.toList := by rw [h]
  simpa [S] using h1
theorem blk_lt {w : World} {k : Nat} {o : Obj} (h : w.heap[k]? = some o) : k < w.heap.size := (Array.getElem?_eq_some_iff.1 h).1
theorem hidS {p : Prop} (h : p) : Hid p := h
theorem S_get (l : List UInt8) (i : Nat) (h : i < (S l).size) : (S l)[i]'h = l[i]'(by rw [S_size] at h; exact h) := by
  show (S l).data[i] = _
  simp [S]
end Go.Proofs.YtlabofafmcbfmaaGreatDoor
