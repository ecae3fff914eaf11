package tests

import (
	"math"
	"slices"
	"testing"
)

// mark is no card, suit, rank or length, so that a stray write or read of it shows.
const mark int64 = -7777777

// guarded is a list inside a larger array whose other places hold marks. The places behind the
// list are its spare capacity.
type guarded struct {
	whole  []int64
	before []int64
	start  int
	length int
}

func guard(list []int64) *guarded {
	const margin = 20
	whole := slices.Repeat([]int64{mark}, len(list)+2*margin)
	copy(whole[margin:], list)
	return &guarded{whole: whole, before: slices.Clone(whole), start: margin, length: len(list)}
}

func (g *guarded) list() []int64 { return g.whole[g.start : g.start+g.length] }

func (g *guarded) mustBeUnchanged(t *testing.T, what string) {
	t.Helper()
	if !slices.Equal(g.whole, g.before) {
		t.Fatalf("%s: the argument or the memory around it changed from %v to %v", what, g.before, g.whole)
	}
}

// overwrite fills a result up to its capacity, so that memory shared with anything else shows there.
func overwrite(list []int64) {
	list = list[:cap(list)]
	for i := range list {
		list[i] = mark - 1
	}
}

// checkMemory calls a function that makes a list of a list and checks that the call changes
// nothing, that the result is independent of the argument, and that a second call is independent
// of the first one.
func checkMemory(t *testing.T, what string, argument []int64, call func([]int64) []int64) {
	t.Helper()
	g := guard(argument)
	first := call(g.list())
	g.mustBeUnchanged(t, what)
	kept := slices.Clone(first)

	second := call(g.list())
	overwrite(second)
	g.mustBeUnchanged(t, what+", after the result was overwritten")
	if !slices.Equal(first, kept) {
		t.Fatalf("%s: two results share memory", what)
	}
	for i := range g.whole {
		g.whole[i] = mark - 2
	}
	if !slices.Equal(first, kept) {
		t.Fatalf("%s: the result follows changes of the argument", what)
	}
	if third := call(argument); !slices.Equal(third, kept) {
		t.Fatalf("%s: the result changed from %v to %v between calls", what, kept, third)
	}
}

// outside lists numbers that are not in 0..count-1: the nearest ones, multiples that a remainder
// or a narrower integer type would bring back into the range, and the ends of int64.
func outside(count int64) []int64 {
	list := []int64{
		-1, -2, -count, -count - 1, count, count + 1, 2 * count, 100, -100, 1000003,
		math.MinInt64, math.MinInt64 + 1, math.MaxInt64, math.MaxInt64 - 1,
		math.MinInt64 / count * count, math.MaxInt64 / count * count,
	}
	for _, shift := range []int{8, 16, 31, 32, 62} {
		list = append(list, 1<<shift, 1<<shift+1, -(1 << shift), -(1<<shift)+1)
	}
	return list
}

// numberStream yields the same numbers in every run.
type numberStream uint64

func (n *numberStream) below(limit int) int {
	*n = *n*6364136223846793005 + 1442695040888963407
	return int((uint64(*n) >> 33) % uint64(limit))
}

// someHand returns a hand of a given number of cards.
func (n *numberStream) someHand(size int) []int64 {
	var held [52]bool
	for count := 0; count < size; {
		card := n.below(52)
		if !held[card] {
			held[card] = true
			count++
		}
	}
	var hand []int64
	for card, is := range held {
		if is {
			hand = append(hand, int64(card))
		}
	}
	return hand
}

// cardRange returns the numbers from first to last.
func cardRange(first, last int64) []int64 {
	var list []int64
	for card := first; card <= last; card++ {
		list = append(list, card)
	}
	return list
}
