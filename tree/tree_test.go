package tree

import (
	"testing"

	"grove/api"
)

// grown: 1 in 0, 2 in 1, 3 in 2, 4 in 1, 5 in 0.
func grown(t *testing.T) *Tree {
	t.Helper()
	var r Tree
	for _, parent := range []uint8{0, 1, 2, 1, 0} {
		if !r.Begin(parent) {
			t.Fatalf("Begin(%d) was refused", parent)
		}
	}
	return &r
}

func wantOpen(t *testing.T, r *Tree, open ...uint8) {
	t.Helper()
	var want [256]bool
	for _, tx := range open {
		want[tx] = true
	}
	for tx := 0; tx <= 255; tx++ {
		if got := r.IsOpen(uint8(tx)); got != want[tx] {
			t.Errorf("IsOpen(%d) = %v", tx, got)
		}
		if got := r.MayLieIn(uint8(tx)); got != (want[tx] || tx == 0) {
			t.Errorf("MayLieIn(%d) = %v", tx, got)
		}
	}
}

func TestBegin(t *testing.T) {
	var r Tree
	wantOpen(t, &r)
	for i := uint8(1); i <= api.MaxTx; i++ {
		if r.Begun() != i-1 || !r.Begin(i-1) {
			t.Fatalf("the %d. transaction: %d begun", i, r.Begun())
		}
	}
	before := r
	if r.Begin(0) || r != before {
		t.Errorf("a 16th transaction: %v", r)
	}
}

func TestBeginWithoutAParent(t *testing.T) {
	r := grown(t)
	r.Commit(3)
	before := *r
	for _, parent := range []uint8{3, 6, 15, 16, 255} {
		if r.Begin(parent) || *r != before {
			t.Errorf("Begin(%d): %v", parent, *r)
		}
	}
}

func TestCommit(t *testing.T) {
	r := grown(t)
	before := *r
	for _, tx := range []uint8{0, 1, 2, 6, 16, 255} {
		if r.Commit(tx) || *r != before {
			t.Errorf("Commit(%d): %v", tx, *r)
		}
	}
	if !r.Commit(3) || r.Commit(3) || !r.Commit(2) || !r.Commit(5) {
		t.Errorf("a commit that was due was refused, or one that was not was done: %v", *r)
	}
	wantOpen(t, r, 1, 4)
}

func TestParent(t *testing.T) {
	r := grown(t)
	r.Commit(3)
	r.Abort(1)
	want := [256]uint8{2: 1, 3: 2, 4: 1}
	for tx := 0; tx <= 255; tx++ {
		if got := r.Parent(uint8(tx)); got != want[tx] {
			t.Errorf("Parent(%d) = %d, want %d", tx, got, want[tx])
		}
	}
	var deep Tree
	for i := uint8(1); i <= api.MaxTx; i++ {
		deep.Begin(i - 1)
	}
	if got := deep.Parent(api.MaxTx); got != api.MaxTx-1 {
		t.Errorf("the last one's parent is %d", got)
	}
}

func TestHasOpenChild(t *testing.T) {
	r := grown(t)
	for tx := 0; tx <= 255; tx++ {
		if got := r.HasOpenChild(uint8(tx)); got != (tx <= 2) {
			t.Errorf("HasOpenChild(%d) = %v", tx, got)
		}
	}
	r.Commit(3)
	r.Commit(2)
	if r.HasOpenChild(2) || !r.HasOpenChild(1) {
		t.Errorf("behind two commits: %v", *r)
	}
}

func TestAbort(t *testing.T) {
	for _, c := range []struct {
		tx   uint8
		open []uint8
	}{
		{1, []uint8{5}}, {2, []uint8{1, 4, 5}}, {3, []uint8{1, 2, 4, 5}}, {4, []uint8{1, 2, 3, 5}}, {5, []uint8{1, 2, 3, 4}},
	} {
		r := grown(t)
		if !r.Abort(c.tx) {
			t.Errorf("Abort(%d) was refused", c.tx)
		}
		wantOpen(t, r, c.open...)
		before := *r
		for _, tx := range []uint8{0, c.tx, 6, 16, 255} {
			if r.Abort(tx) || *r != before {
				t.Errorf("Abort(%d) behind Abort(%d): %v", tx, c.tx, *r)
			}
		}
	}
}

func TestBit(t *testing.T) {
	want := uint16(2)
	for tx := 0; tx <= 255; tx++ {
		got := Bit(uint8(tx))
		if tx == 0 || tx > 15 {
			if got != 0 {
				t.Errorf("Bit(%d) = %d", tx, got)
			}
			continue
		}
		if got != want {
			t.Errorf("Bit(%d) = %d, want %d", tx, got, want)
		}
		want *= 2
	}
}

func TestOpen(t *testing.T) {
	var r Tree
	if got := r.Open(); got != 0 {
		t.Errorf("of no transactions %b are open", got)
	}
	for i := 1; i <= api.MaxTx; i++ {
		r.Begin(0)
	}
	if got := r.Open(); got != 1<<16-2 {
		t.Errorf("of all transactions %b are open", got)
	}
	g := grown(t)
	g.Commit(3)
	if got := g.Open(); got != 2+4+16+32 {
		t.Errorf("behind a commit %b are open", got)
	}
	g.Abort(1)
	if got := g.Open(); got != 32 {
		t.Errorf("behind an abort %b are open", got)
	}
}

func TestLine(t *testing.T) {
	r := grown(t)
	r.Commit(3)
	r.Abort(4)
	for tx, want := range []uint16{0, 2, 2 + 4, 2 + 4 + 8, 2 + 16, 32} {
		if got := r.Line(uint8(tx)); got != want {
			t.Errorf("Line(%d) = %b, want %b", tx, got, want)
		}
	}
	for _, tx := range []uint8{16, 17, 255} {
		if got := r.Line(tx); got != 0 {
			t.Errorf("Line(%d) = %b", tx, got)
		}
	}
	var deep Tree
	for i := uint8(1); i <= api.MaxTx; i++ {
		deep.Begin(i - 1)
	}
	for i := uint8(1); i <= api.MaxTx; i++ {
		if got, want := int(deep.Line(i)), 1<<(i+1)-2; got != want {
			t.Errorf("%d in one another: %b, want %b", i, got, want)
		}
	}
}
