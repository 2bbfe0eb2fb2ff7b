/-
  What a slice holds, as a list: all of it stands in Seg; this text only lays it where others look for it.
-/
import Derived.Test.YtlmiomfbpeondanSeg
