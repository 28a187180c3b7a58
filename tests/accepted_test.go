package tests

import (
	"slices"
	"testing"

	"loop.example/g00567/impl"
)

// replies lists replies as they are given: from, view and val of one after another.
func replies(triples ...int) []impl.Ballot { return tally(triples...).L }

// acceptedBy returns the smallest value that is the first reply in seq of enough replicas.
func acceptedBy(n int, l []impl.Ballot, seq int) (int, bool) {
	for val := 1; val <= 60; val++ {
		if len(firstRepliers(l, seq, val)) >= weakOf(n) {
			return val, true
		}
	}
	return 0, false
}

// firstRepliers returns the replicas whose first reply in seq is val.
func firstRepliers(l []impl.Ballot, seq, val int) []int {
	var out []int
	for from := range 7 {
		at := slices.IndexFunc(l, func(b impl.Ballot) bool { return b.From == from && b.View == seq })
		if at != -1 && l[at].Val == val {
			out = append(out, from)
		}
	}
	return out
}

func wantAccepted(t *testing.T, n int, l []impl.Ballot, seq, want int, wantOk bool) {
	t.Helper()
	if val, ok := impl.Accepted(n, l, seq); val != want || ok != wantOk {
		t.Errorf("Accepted of %v, %v and %v: %v %v, want %v %v", n, l, seq, val, ok, want, wantOk)
	}
}

func TestAcceptedByHand(t *testing.T) {
	for _, x := range []struct {
		n, seq int
		l      []impl.Ballot
		want   int
	}{
		{4, 1, nil, 0},
		{4, 1, replies(0, 1, 9), 0},
		{4, 1, replies(0, 1, 9, 2, 1, 9), 9},
		{4, 1, replies(2, 1, 9, 0, 1, 9), 9},
		{4, 1, replies(0, 1, 9, 2, 1, 9, 3, 1, 9, 1, 1, 9), 9},
		{4, 1, replies(0, 1, 9, 2, 1, 8), 0},
		{4, 1, replies(0, 1, 9, 0, 1, 8, 3, 1, 8, 2, 1, 9), 9},
		{4, 1, replies(0, 1, 9, 0, 1, 9), 0},
		{4, 1, replies(0, 1, 9, 0, 1, 8, 3, 1, 8), 0},
		{4, 1, replies(0, 0, 8, 2, 0, 8, 0, 1, 9, 2, 1, 9), 9},
		{4, 0, replies(0, 0, 8, 2, 0, 8, 0, 1, 9, 2, 1, 9), 8},
		{4, 1, replies(0, 0, 9, 2, 1, 9, 3, 2, 9), 0},
		{4, 9, replies(0, 9, 60, 3, 9, 60), 60},
		{4, 0, replies(0, 0, 1, 3, 0, 1), 1},
		{4, 8, replies(0, 9, 60, 3, 9, 60), 0},
		{4, 1, replies(3, 1, 20, 2, 1, 10, 1, 1, 10, 0, 1, 20), 10},
		{7, 1, replies(0, 1, 9, 2, 1, 9), 0},
		{7, 1, replies(0, 1, 9, 6, 1, 9, 2, 1, 9), 9},
		{7, 1, replies(0, 1, 9, 6, 1, 9, 2, 1, 9, 3, 1, 9), 9},
		{7, 1, replies(0, 1, 9, 6, 1, 9, 0, 1, 9), 0},
		{7, 1, replies(6, 1, 30, 5, 1, 30, 4, 1, 30, 3, 1, 20, 2, 1, 20, 1, 1, 20), 20},
		{7, 1, replies(6, 1, 20, 5, 1, 20, 4, 1, 20, 3, 1, 30, 2, 1, 30, 1, 1, 30, 0, 1, 30), 20},
		{7, 1, replies(6, 1, 10, 5, 1, 10, 4, 1, 30, 3, 1, 30, 2, 1, 30, 6, 1, 30, 0, 1, 1), 30},
	} {
		wantAccepted(t, x.n, x.l, x.seq, x.want, x.want != 0)
	}
}

// Every list of up to four replies by any of four replicas with two values, in the view or in the next one.
func TestAcceptedIsGivenByAWeakQuorum(t *testing.T) {
	for size := range 5 {
		assignments(size, 15, func(of []int) {
			var l []impl.Ballot
			for _, x := range of {
				l = append(l, ballot(x%4, 2+x/4%2, 8+x/8))
			}
			checkAccepted(t, 4, l, 2)
		})
	}
}

func TestAcceptedOf7(t *testing.T) {
	next := recurrence()
	found := 0
	for range 3000 {
		var l []impl.Ballot
		for range next(16) {
			l = append(l, ballot(next(7), 8+next(2), []int{60, 1, 30}[next(3)]))
		}
		if checkAccepted(t, 7, l, 9) {
			found++
		}
	}
	if found < 300 || found > 2700 {
		t.Error(found)
	}
}

func checkAccepted(t *testing.T, n int, l []impl.Ballot, seq int) bool {
	t.Helper()
	want, wantOk := acceptedBy(n, l, seq)
	wantAccepted(t, n, l, seq, want, wantOk)
	val, ok := impl.Accepted(n, l, seq)
	if ok && len(firstRepliers(l, seq, val)) < weakOf(n) {
		t.Error(n, l, seq, val, "was given by too few")
	}
	return ok
}

func TestAcceptedIsTheWinnerOfTheReplies(t *testing.T) {
	for _, x := range mixedTallies() {
		for seq := range 10 {
			want, wantOk := impl.Winner(x, seq, 3)
			wantAccepted(t, 7, x.L, seq, want, wantOk)
			slices.Reverse(x.L) // replies come in any order
			wantAccepted(t, 7, x.L, seq, want, wantOk)
			slices.Reverse(x.L)
		}
	}
}

func TestAcceptedWithManyReplies(t *testing.T) {
	l := slices.Repeat(replies(0, 1, 9, 1, 1, 8), 1<<16)
	wantAccepted(t, 4, l, 1, 0, false)
	wantAccepted(t, 4, append(l, ballot(2, 1, 8)), 1, 8, true)
	wantAccepted(t, 4, append(l, ballot(2, 1, 61)), 1, 0, false)
}

func TestAcceptedOfOtherSizes(t *testing.T) {
	l := replies(0, 1, 9, 1, 1, 9, 2, 1, 9, 3, 1, 9)
	for _, n := range otherSizes {
		wantAccepted(t, n, l, 1, 0, false)
		wantAccepted(t, n, nil, 1, 0, false)
		wantAccepted(t, n, viewTally(1, 9, 9, 9, 9, 9, 9, 9).L, 1, 0, false)
	}
	wantAccepted(t, 4, l, 1, 9, true)
	wantAccepted(t, 7, l, 1, 9, true)
}

func TestAcceptedInOtherViews(t *testing.T) {
	for _, seq := range someViews {
		isView := 0 <= seq && seq <= 9
		l := replies(0, 1, 9, 1, 1, 9)
		if isView {
			l = replies(0, seq, 9, 1, seq, 9)
			wantAccepted(t, 4, l, seq, 9, true)
		} else {
			wantAccepted(t, 4, l, seq, 0, false)
			wantAccepted(t, 4, replies(0, seq, 9, 1, seq, 9), seq, 0, false)
		}
		wantAccepted(t, 4, nil, seq, 0, false)
	}
}

// One wrong reply is enough, wherever it is and of whichever view, though the others would do.
func TestAcceptedRefusesWrongReplies(t *testing.T) {
	good := replies(0, 1, 9, 1, 1, 9, 2, 1, 9)
	wrong := invalidBallots()
	for _, from := range []int{4, 5, 6} {
		for _, view := range []int{0, 1, 9} {
			wrong["from "+string(rune('0'+from))+" in view "+string(rune('0'+view))] = ballot(from, view, 9)
		}
	}
	for name, b := range wrong {
		for at := range len(good) + 1 {
			if val, ok := impl.Accepted(4, slices.Insert(slices.Clone(good), at, b), 1); val != 0 || ok {
				t.Error(name, at, val, ok)
			}
		}
	}
	for name, b := range invalidBallots() {
		for at := range len(good) + 1 {
			if val, ok := impl.Accepted(7, slices.Insert(slices.Clone(good), at, b), 1); val != 0 || ok {
				t.Error(name, at, val, ok)
			}
		}
	}
	// A wrong reply is no second reply, even if its place is taken.
	wantAccepted(t, 4, append(good, ballot(0, 1, 61)), 1, 0, false)
	wantAccepted(t, 4, append(good, ballot(3, 1, 60)), 1, 9, true)
	wantAccepted(t, 7, append(good, ballot(6, 1, 60)), 1, 9, true)
}

// The result is the same each time, though a map is ranged over in no fixed order.
func TestAcceptedIsTheSameEachTime(t *testing.T) {
	l := replies(6, 1, 50, 5, 1, 50, 4, 1, 50, 3, 1, 40, 2, 1, 40, 1, 1, 40, 0, 1, 30)
	for range 200 {
		wantAccepted(t, 7, l, 1, 40, true)
	}
}
