package pool_test

import (
	"bytes"
	"testing"

	"cistern/api"
)

// The chapter's examples, in their order.
func TestExamples(t *testing.T) {
	x := anew(t, 60, 8)
	free := x.p.Free()
	ones, twos, noughts := bytes.Repeat([]byte{1}, 256), bytes.Repeat([]byte{2}, 256), make([]byte, 256)

	if id := x.create("a", 1000); id != 1 {
		t.Errorf("Create tells %d", id)
	}
	x.has(1, 3, noughts)
	x.ok("Write", x.p.Write(1, 3, ones))
	x.has(1, 3, ones)
	_, e := x.p.Read(1, 4)
	x.told("Read(1, 4)", e, api.ErrRange)

	if id := x.snapshot("a", "b", true); id != 2 {
		t.Errorf("Snapshot tells %d", id)
	}
	x.ok("Write", x.p.Write(1, 3, twos))
	x.has(2, 3, ones)
	x.told("Write(2, 3)", x.p.Write(2, 3, twos), api.ErrRead)

	x.ok("Resize 800", x.p.Resize("a", 800))
	x.ok("Resize 1000", x.p.Resize("a", 1000))
	x.has(1, 3, append(twos[:32:32], noughts[32:]...))
	x.has(2, 3, ones)

	x.ok("Delete a", x.p.Delete("a"))
	x.ok("Delete b", x.p.Delete("b"))
	x.commit()
	if x.p.Free() != free {
		t.Errorf("%d blocks are free, want %d", x.p.Free(), free)
	}
	x.counted("behind all")
}

// The document's examples of the whole that are the pool's: what is not committed is lost with the power, what is committed stays.
func TestExamplesOfTheWhole(t *testing.T) {
	x := anew(t, 60, 8)
	if x.p.Free() != 56 {
		t.Errorf("%d blocks are free", x.p.Free())
	}
	if id := x.create("a", 1000); id != 1 {
		t.Errorf("Create tells %d", id)
	}
	x.commit()
	if gen := x.p.Txn().Super().Gen; gen != 2 {
		t.Errorf("Gen is %d", gen)
	}
	x.write(1, 1, 0, 1)
	x.d.Crash(nil)
	x.open(8)
	x.has(1, 0, make([]byte, 256))
	x.write(1, 1, 0, 1)
	x.commit()
	x.d.Crash(nil)
	x.open(8)
	x.has(1, 0, text(1))
	x.has(1, 1, text(2))
	x.snapshot("a", "b", true)
	x.write(1, 9, 0, 1)
	x.ok("Resize", x.p.Resize("a", 100))
	x.has(2, 0, text(1))
	x.ok("Delete", x.p.Delete("a"))
	x.has(2, 1, text(2))
	x.ok("Delete", x.p.Delete("b"))
	x.commit()
	if x.p.Free() != 56 {
		t.Errorf("%d blocks are free", x.p.Free())
	}
}
