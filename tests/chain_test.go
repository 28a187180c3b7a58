package tests

import (
	"math"
	"slices"
	"testing"

	"loop.example/g00567/impl"
)

// someRows are rows for a chain, no two elements of a row alike and every value somewhere.
func someRows(n, count int) [][]int {
	var rows [][]int
	for i := range count {
		var row []int
		for k := range n {
			row = append(row, 1+(i*n+k)%60)
		}
		rows = append(rows, row)
	}
	return rows
}

// linked decides a chain row by row.
func linked(t *testing.T, rows [][]int, bad []bool) []int {
	t.Helper()
	var l []int
	for _, row := range rows {
		c, ok := impl.ClusterNew(row, bad)
		if !ok {
			t.Fatal(row, bad)
		}
		c, _ = wantFair(t, c, 60)
		val, ok := impl.Verdict(c)
		if !ok {
			t.Fatal(row, bad, c)
		}
		l = append(l, val)
	}
	return l
}

func TestChain(t *testing.T) {
	t.Parallel()
	for _, n := range []int{4, 7} {
		for _, faulty := range faultySets(n) {
			for _, count := range []int{1, 2, 3, 20} {
				rows, bad := someRows(n, count), flagsOf(n, faulty...)
				got, ok := impl.Chain(n, rows, bad)
				if !ok || len(got) != count {
					t.Fatal(n, faulty, got, ok)
				}
				if count < 4 && !slices.Equal(got, linked(t, rows, bad)) {
					t.Error(n, faulty, got)
				}
				for i, val := range got {
					if from := slices.Index(rows[i], val); from == -1 || bad[from] || from != firstHonest(n, 0, faulty) {
						t.Error(n, faulty, rows[i], val)
					}
				}
			}
		}
	}
}

func TestChainWithTheLeastAndTheGreatestValues(t *testing.T) {
	for _, n := range []int{4, 7} {
		for _, faulty := range faultySets(n) {
			rows := [][]int{slices.Repeat([]int{60}, n), slices.Repeat([]int{1}, n), slices.Repeat([]int{60}, n)}
			if got, ok := impl.Chain(n, rows, flagsOf(n, faulty...)); !ok || !slices.Equal(got, []int{60, 1, 60}) {
				t.Error(n, faulty, got, ok)
			}
		}
	}
}

func TestChainWithoutRows(t *testing.T) {
	for _, n := range []int{4, 7} {
		for _, rows := range [][][]int{nil, {}, someRows(4, 3)[:0]} {
			// With no row there is no cluster for which the flags could be wrong.
			for _, bad := range [][]bool{flagsOf(n), flagsOf(n, 1), nil, make([]bool, n+1), slices.Repeat([]bool{true}, n)} {
				if got, ok := impl.Chain(n, rows, bad); !ok || len(got) != 0 {
					t.Error(n, bad, got, ok)
				}
			}
		}
	}
}

func wantNoChain(t *testing.T, n int, rows [][]int, bad []bool) {
	t.Helper()
	if got, ok := impl.Chain(n, rows, bad); ok || len(got) != 0 {
		t.Error(n, len(rows), bad, got, ok)
	}
}

func TestChainOfOtherSizes(t *testing.T) {
	for _, n := range otherSizes {
		for _, size := range []int{4, 7, 5} {
			wantNoChain(t, n, nil, flagsOf(size))
			wantNoChain(t, n, [][]int{}, nil)
			wantNoChain(t, n, someRows(size, 1), flagsOf(size))
			wantNoChain(t, n, someRows(size, 20), flagsOf(size))
		}
		if size := n; 0 <= size && size < 20 {
			wantNoChain(t, n, someRows(size, 2), flagsOf(size))
		}
	}
}

func TestChainWithTooManyRows(t *testing.T) {
	for _, n := range []int{4, 7} {
		for _, count := range []int{21, 22, 256 + 3, 1 << 16} {
			wantNoChain(t, n, someRows(n, count), flagsOf(n))
			wantNoChain(t, n, make([][]int, count), flagsOf(n))
		}
	}
}

func TestChainWithARowOfAnotherLength(t *testing.T) {
	for _, n := range []int{4, 7} {
		other := 11 - n
		wantNoChain(t, n, someRows(other, 1), flagsOf(other))
		wantNoChain(t, n, someRows(other, 1), flagsOf(n))
		wantNoChain(t, n, someRows(n, 1), flagsOf(other))
		for size := range 15 {
			for at := range 4 {
				rows := slices.Insert(someRows(n, 3), at, someRows(size, 1)...)
				if size != n {
					wantNoChain(t, n, rows, flagsOf(n))
					wantNoChain(t, n, rows, flagsOf(size))
				} else if _, ok := impl.Chain(n, rows, flagsOf(n)); !ok {
					t.Error(n, rows)
				}
			}
		}
		wantNoChain(t, n, [][]int{nil}, flagsOf(n))
		wantNoChain(t, n, [][]int{nil}, nil)
		wantNoChain(t, n, [][]int{make([]int, 1<<16)}, flagsOf(n))
	}
}

// An element that is no value fails wherever it is, even if it is a faulty replica's.
func TestChainWithAnElementThatIsNoValue(t *testing.T) {
	t.Parallel()
	for _, n := range []int{4, 7} {
		for _, count := range []int{1, 3, 20} {
			for at := range n {
				for _, wrong := range []int{math.MinInt, -1, 0, 61, 256 + 9, math.MaxInt} {
					for _, i := range []int{0, count / 2, count - 1} {
						rows := someRows(n, count)
						rows[i][at] = wrong
						if count < 20 || wrong == 61 {
							wantNoChain(t, n, rows, flagsOf(n))
							wantNoChain(t, n, rows, flagsOf(n, at))
						}
					}
				}
			}
		}
	}
}

func TestChainWithOtherFlags(t *testing.T) {
	for _, n := range []int{4, 7} {
		for size := range 15 {
			if size != n {
				wantNoChain(t, n, someRows(n, 2), make([]bool, size))
			}
		}
		wantNoChain(t, n, someRows(n, 1), nil)
		wantNoChain(t, n, someRows(n, 1), make([]bool, 1<<20))
		assignments(n, 1, func(of []int) {
			bad, faulty := make([]bool, n), 0
			for id, x := range of {
				bad[id] = x == 1
				faulty += x
			}
			if got, ok := impl.Chain(n, someRows(n, 1), bad); ok != (faulty < weakOf(n)) || len(got) != 0 != ok {
				t.Error(n, bad, got, ok)
			}
		})
	}
}

// The rows have nothing to do with one another.
func TestRowsOfAChainAreIndependent(t *testing.T) {
	for _, n := range []int{4, 7} {
		for _, faulty := range [][]int{nil, {0}, {n - 1}} {
			rows, bad := someRows(n, 6), flagsOf(n, faulty...)
			whole, _ := impl.Chain(n, rows, bad)
			backwards := slices.Clone(rows)
			slices.Reverse(backwards)
			reversed, _ := impl.Chain(n, backwards, bad)
			slices.Reverse(reversed)
			if !slices.Equal(whole, reversed) {
				t.Error(n, faulty, whole, reversed)
			}
			for i := range rows {
				front, _ := impl.Chain(n, rows[:i], bad)
				back, _ := impl.Chain(n, rows[i:], bad)
				if !slices.Equal(whole, append(front, back...)) {
					t.Error(n, faulty, i, whole, front, back)
				}
			}
		}
	}
}
