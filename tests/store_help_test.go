package tests

import (
	"math"
	"slices"
	"strconv"
	"testing"

	"loop.example/g00567/impl"
)

var (
	someKinds   = []int{math.MinInt, -1, 0, 1, 2, 3, 256, 257, math.MaxInt}
	someKeys    = []int{math.MinInt, -1, 0, 1, 2, 3, 4, 5, 256, math.MaxInt}
	someNumbers = []int{math.MinInt, -20, -5, -1, 0, 1, 2, 3, 4, 5, 20, 256, math.MaxInt}
	someStored  = []int{math.MinInt, -1, 0, 1, 999, 1000, 1001, 1 << 16, math.MaxInt}
)

func get(key int) impl.Cmd    { return impl.Cmd{Kind: impl.CmGet, Key: key} }
func put(key, n int) impl.Cmd { return impl.Cmd{Kind: impl.CmPut, Key: key, N: n} }
func add(key, n int) impl.Cmd { return impl.Cmd{Kind: impl.CmAdd, Key: key, N: n} }

func store(count int, vals ...int) impl.Store {
	return impl.Store{Vals: vals, Count: count}
}

func sameStore(a, b impl.Store) bool {
	return slices.Equal(a.Vals, b.Vals) && a.Count == b.Count
}

func cloneStore(s impl.Store) impl.Store {
	return impl.Store{Vals: slices.Clone(s.Vals), Count: s.Count}
}

// validCmds are all commands there are, in the order of their values.
func validCmds() []impl.Cmd {
	var l []impl.Cmd
	for key := range 4 {
		l = append(l, get(key))
	}
	for key := range 4 {
		for n := range 5 {
			l = append(l, put(key, n))
		}
	}
	for key := range 4 {
		for n := range 5 {
			l = append(l, add(key, n))
		}
	}
	return l
}

// validVals are the values of validCmds, one by one.
func validVals() []int {
	l := []int{1, 6, 11, 16}
	for v := 21; v <= 60; v++ {
		l = append(l, v)
	}
	return l
}

// idleVals are numbers that encode no command.
func idleVals() []int {
	l := []int{2, 3, 4, 5, 7, 8, 9, 10, 12, 13, 14, 15, 17, 18, 19, 20}
	return append(l, math.MinInt, -59, -1, 0, 61, 62, 256+1, 1<<32+21, math.MaxInt)
}

func invalidCmds() []impl.Cmd {
	var l []impl.Cmd
	for _, kind := range someKinds {
		for _, key := range someKeys {
			for _, n := range someNumbers {
				c := impl.Cmd{Kind: kind, Key: key, N: n}
				if !slices.Contains(validCmds(), c) {
					l = append(l, c)
				}
			}
		}
	}
	return l
}

func validStores() []impl.Store {
	return []impl.Store{
		store(0, 0, 0, 0, 0), store(1, 0, 0, 0, 0), store(7, 1, 2, 3, 4), store(500, 1000, 0, 42, 999),
		store(990, 996, 997, 998, 999), store(998, 1000, 1000, 1000, 1000), store(999, 7, 42, 999, 1000), store(1000, 5, 6, 7, 8),
	}
}

// invalidStores are each wrong in one place, by what is wrong.
func invalidStores() map[string]impl.Store {
	all := map[string]impl.Store{
		"the zero store":     {},
		"no values":          store(5),
		"three values":       store(5, 1, 2, 3),
		"five values":        store(5, 1, 2, 3, 4, 5),
		"the last of five":   store(5, 1, 2, 3, 4, 1001),
		"a million values":   {Vals: make([]int, 1<<20), Count: 5},
		"three, before more": {Vals: []int{1, 2, 3, 4}[:3], Count: 5},
	}
	for _, wrong := range []int{math.MinInt, -1, 1001, 1 << 16, 1<<32 + 5, math.MaxInt} {
		all["count "+strconv.Itoa(wrong)] = store(wrong, 1, 2, 3, 4)
		for key := range 4 {
			s := store(5, 1, 2, 3, 4)
			s.Vals[key] = wrong
			all["value "+strconv.Itoa(wrong)+" of the key "+strconv.Itoa(key)] = s
		}
	}
	return all
}

// executed is what a valid command makes of a store in which there is room for it, with its result.
func executed(s impl.Store, c impl.Cmd) (impl.Store, int) {
	was := s.Vals[c.Key]
	out := cloneStore(s)
	out.Count = s.Count + 1
	if c.Kind == 1 {
		out.Vals[c.Key] = c.N
	}
	if c.Kind == 2 && was+c.N < 1001 {
		out.Vals[c.Key] = was + c.N
	}
	return out, was
}

// ran executes the elements of l one by one.
func ran(s impl.Store, l []int) (impl.Store, []int) {
	var results []int
	out := cloneStore(s)
	for _, v := range l {
		result := -1
		if at := slices.Index(validVals(), v); at != -1 {
			out, result = executed(out, validCmds()[at])
		}
		results = append(results, result)
	}
	return out, results
}

// mixedRuns are lists of numbers of which most encode commands, with a store for each of which none is too long.
func mixedRuns() []run {
	next := recurrence()
	vals := append(validVals(), idleVals()...)
	var l []run
	for i, s := range append(validStores(), validStores()...) {
		x := run{s, nil}
		for range min(1000-s.Count, i*5) {
			x.l = append(x.l, vals[next(len(vals))])
		}
		l = append(l, x)
	}
	return append(l, run{impl.StoreNew(), nil}, run{impl.StoreNew(), validVals()}, run{impl.StoreNew(), idleVals()})
}

type run struct {
	s impl.Store
	l []int
}

// spareStore returns s with room behind its values, and what tells whether any of the memory was written.
func spareStore(s impl.Store) (impl.Store, func() bool) {
	room := append(slices.Clone(s.Vals), 5, 6, 1001)
	before := slices.Clone(room)
	s.Vals = room[:len(s.Vals)]
	return s, func() bool { return slices.Equal(room, before) }
}

// spareList returns l with room behind it, and what tells whether any of the memory was written.
func spareList(l []int) ([]int, func() bool) {
	room := append(slices.Clone(l), 21, 2, 61)
	before := slices.Clone(room)
	return room[:len(l)], func() bool { return slices.Equal(room, before) }
}

func wantStore(t *testing.T, got impl.Store, n int, want impl.Store, wantN int) {
	t.Helper()
	if n != wantN || !sameStore(got, want) {
		t.Errorf("got %v %v, want %v %v", got, n, want, wantN)
	}
}

func wantUndone(t *testing.T, got impl.Store, ok bool, want impl.Store, wantOk bool) {
	t.Helper()
	if ok != wantOk || !sameStore(got, want) {
		t.Errorf("got %v %v, want %v %v", got, ok, want, wantOk)
	}
}

func wantRun(t *testing.T, s impl.Store, l []int, want impl.Store, wantResults []int) {
	t.Helper()
	got, results, ok := impl.StoreRun(s, l)
	if !ok || !sameStore(got, want) || !slices.Equal(results, wantResults) {
		t.Errorf("StoreRun of %v and %v:\ngot  %v %v %v,\nwant %v %v", s, l, got, results, ok, want, wantResults)
	}
}

func wantNoRun(t *testing.T, s impl.Store, l []int) {
	t.Helper()
	got, results, ok := impl.StoreRun(s, l)
	if ok || !sameStore(got, impl.Store{}) || len(results) != 0 {
		t.Errorf("StoreRun of %v and %v elements: %v %v %v", s, len(l), got, results, ok)
	}
}
