package tests

import (
	"iter"
	"math"
	"slices"
	"testing"

	"loop.example/g00854/impl"
)

// mark is no card, suit, rank or length, so that a stray write or read of it shows.
const mark int64 = -7777777

// guarded is a list inside a larger array whose other places hold marks. The places behind the
// list are its spare capacity.
type guarded struct {
	whole  []int64
	before []int64
	start  int
	length int
}

func guard(list []int64) *guarded {
	const margin = 20
	whole := slices.Repeat([]int64{mark}, len(list)+2*margin)
	copy(whole[margin:], list)
	return &guarded{whole: whole, before: slices.Clone(whole), start: margin, length: len(list)}
}

func (g *guarded) list() []int64 { return g.whole[g.start : g.start+g.length] }

func (g *guarded) mustBeUnchanged(t *testing.T, what string) {
	t.Helper()
	if !slices.Equal(g.whole, g.before) {
		t.Fatalf("%s: the argument or the memory around it changed from %v to %v", what, g.before, g.whole)
	}
}

// overwrite fills a result up to its capacity, so that memory shared with anything else shows there.
func overwrite(list []int64) {
	list = list[:cap(list)]
	for i := range list {
		list[i] = mark - 1
	}
}

// checkMemory calls a function that makes a list of a list and checks that the call changes
// nothing, that the result is independent of the argument, and that a second call is independent
// of the first one.
func checkMemory(t *testing.T, what string, argument []int64, call func([]int64) []int64) {
	t.Helper()
	g := guard(argument)
	first := call(g.list())
	g.mustBeUnchanged(t, what)
	kept := slices.Clone(first)

	second := call(g.list())
	overwrite(second)
	g.mustBeUnchanged(t, what+", after the result was overwritten")
	if !slices.Equal(first, kept) {
		t.Fatalf("%s: two results share memory", what)
	}
	for i := range g.whole {
		g.whole[i] = mark - 2
	}
	if !slices.Equal(first, kept) {
		t.Fatalf("%s: the result follows changes of the argument", what)
	}
	if third := call(argument); !slices.Equal(third, kept) {
		t.Fatalf("%s: the result changed from %v to %v between calls", what, kept, third)
	}
}

// guardedDeal is a deal whose hands, and whose list of hands, lie inside larger arrays.
type guardedDeal struct {
	hands []*guarded
	whole [][]int64
	start int
	count int
}

func guardDeal(d impl.Deal) *guardedDeal {
	const margin = 3
	g := &guardedDeal{start: margin, count: len(d.Hands)}
	strangers := slices.Repeat([][]int64{{mark}}, margin)
	for _, hand := range slices.Concat(strangers, d.Hands, strangers) {
		held := guard(hand)
		g.hands = append(g.hands, held)
		g.whole = append(g.whole, held.list())
	}
	return g
}

func (g *guardedDeal) deal() impl.Deal { return impl.Deal{Hands: g.whole[g.start : g.start+g.count]} }

func (g *guardedDeal) mustBeUnchanged(t *testing.T, what string) {
	t.Helper()
	for place, hand := range g.hands {
		hand.mustBeUnchanged(t, what)
		now, before := g.whole[place], hand.list()
		if len(now) != len(before) || cap(now) != cap(before) || &now[:1][0] != &before[:1][0] {
			t.Fatalf("%s: the list of hands or the memory around it changed at %d", what, place-g.start)
		}
	}
}

func (g *guardedDeal) spoil() {
	for place, hand := range g.hands {
		for i := range hand.whole {
			hand.whole[i] = mark - 2
		}
		g.whole[place] = nil
	}
}

func copyLists(lists [][]int64) [][]int64 {
	var copies [][]int64
	for _, list := range lists {
		copies = append(copies, slices.Clone(list))
	}
	return copies
}

func sameLists(a, b [][]int64) bool { return slices.EqualFunc(a, b, slices.Equal[[]int64]) }

// overwriteLists also fills the spare capacity behind the last list.
func overwriteLists(lists [][]int64) {
	for _, list := range lists {
		overwrite(list)
	}
	lists = lists[:cap(lists)]
	for i := range lists {
		lists[i] = []int64{mark - 1}
	}
}

// checkDealMemory does for a function that makes lists of a deal what checkMemory does for one
// that makes a list of a list, and checks that the lists of one result are independent.
func checkDealMemory(t *testing.T, what string, argument impl.Deal, call func(impl.Deal) [][]int64) {
	t.Helper()
	g := guardDeal(argument)
	first := call(g.deal())
	g.mustBeUnchanged(t, what)
	kept := copyLists(first)
	for i := range kept {
		alone := call(g.deal())
		overwrite(alone[i])
		if !sameLists(alone[:i], kept[:i]) || !sameLists(alone[i+1:], kept[i+1:]) {
			t.Fatalf("%s: list %d of a result shares memory with another one", what, i)
		}
	}
	overwriteLists(call(g.deal()))
	g.mustBeUnchanged(t, what+", after the result was overwritten")
	if !sameLists(first, kept) {
		t.Fatalf("%s: two results share memory", what)
	}
	g.spoil()
	if !sameLists(first, kept) {
		t.Fatalf("%s: the result follows changes of the argument", what)
	}
	if last := call(argument); !sameLists(last, kept) {
		t.Fatalf("%s: the result changed from %v to %v between calls", what, kept, last)
	}
}

// outside lists numbers that are not in 0..count-1: the nearest ones, multiples that a remainder
// or a narrower integer type would bring back into the range, and the ends of int64.
func outside(count int64) []int64 {
	list := []int64{
		-1, -2, -count, -count - 1, count, count + 1, 2 * count, 100, -100, 1000003,
		math.MinInt64, math.MinInt64 + 1, math.MaxInt64, math.MaxInt64 - 1,
		math.MinInt64 / count * count, math.MaxInt64 / count * count,
	}
	for _, shift := range []int{8, 16, 31, 32, 62} {
		list = append(list, 1<<shift, 1<<shift+1, -(1 << shift), -(1<<shift)+1)
	}
	return list
}

// numberStream yields the same numbers in every run.
type numberStream uint64

func (n *numberStream) below(limit int) int {
	*n = *n*6364136223846793005 + 1442695040888963407
	return int((uint64(*n) >> 33) % uint64(limit))
}

// someHand returns a hand of a given number of cards.
func (n *numberStream) someHand(size int) []int64 {
	var held [52]bool
	for count := 0; count < size; {
		card := n.below(52)
		if !held[card] {
			held[card] = true
			count++
		}
	}
	var hand []int64
	for card, is := range held {
		if is {
			hand = append(hand, int64(card))
		}
	}
	return hand
}

// cardRange returns the numbers from first to last.
func cardRange(first, last int64) []int64 {
	var list []int64
	for card := first; card <= last; card++ {
		list = append(list, card)
	}
	return list
}

// textsWithAByteChanged produces a text with each byte replaced by every byte, itself among them.
func textsWithAByteChanged(text string) iter.Seq[string] {
	return func(yield func(string) bool) {
		for place := range len(text) {
			for letter := range 256 {
				if !yield(text[:place] + string([]byte{byte(letter)}) + text[place+1:]) {
					return
				}
			}
		}
	}
}

// textsWithAByteMoreOrLess produces a text with a byte removed at each place, with every byte put
// in there, and cut off there at either end.
func textsWithAByteMoreOrLess(text string) iter.Seq[string] {
	return func(yield func(string) bool) {
		for place := range len(text) + 1 {
			before, behind := text[:place], text[place:]
			if !yield(before) || !yield(behind) || behind != "" && !yield(before+behind[1:]) {
				return
			}
			for letter := range 256 {
				if !yield(before + string([]byte{byte(letter)}) + behind) {
					return
				}
			}
		}
	}
}
