package tests

import (
	"math"
	"slices"
	"strings"
	"testing"

	"loop.example/g00854/impl"
)

// The signatures of chapter 2.
var (
	_ func([]int64) []int64        = impl.ShapeOf
	_ func([]int64) []int64        = impl.PatternOf
	_ func([]int64) int64          = impl.HighCardPoints
	_ func([]int64) int64          = impl.ControlsOf
	_ func([]int64) int64          = impl.LosersOf
	_ func([]int64) int64          = impl.QuickTricks
	_ func([]int64, int64) int64   = impl.HonorsOf
	_ func([]int64) string         = impl.HandText
	_ func(string) ([]int64, bool) = impl.ReadHand
)

// suitLettersUp lists the letters of the ranks from the two to the ace.
const suitLettersUp = "23456789TJQKA"

// textOfSuit writes the ranks of a suit downwards, where bit r of ranks stands for the rank r.
func textOfSuit(ranks int) string {
	text := ""
	for rank := 0; rank < 13; rank++ {
		if ranks>>rank&1 == 1 {
			text = suitLettersUp[rank:rank+1] + text
		}
	}
	return text
}

func cardsOfRanks(suit int64, ranks int) []int64 {
	var list []int64
	for rank := int64(0); rank < 13; rank++ {
		if ranks>>rank&1 == 1 {
			list = append(list, 13*suit+rank)
		}
	}
	return list
}

// suitsText is the text of a hand, made of the texts of its cards.
func suitsText(hand []int64) string {
	suits := map[byte]string{}
	for _, card := range hand {
		text := cardTexts[card]
		suits[text[0]] = text[1:] + suits[text[0]]
	}
	return suits['S'] + "." + suits['H'] + "." + suits['D'] + "." + suits['C']
}

// evaluation is what a hand or a suit counts.
type evaluation struct{ points, controls, losers, quickTricks int64 }

func evaluate(hand []int64) evaluation {
	return evaluation{impl.HighCardPoints(hand), impl.ControlsOf(hand), impl.LosersOf(hand), impl.QuickTricks(hand)}
}

func (e evaluation) plus(f evaluation) evaluation {
	return evaluation{e.points + f.points, e.controls + f.controls, e.losers + f.losers, e.quickTricks + f.quickTricks}
}

// evaluateSuit follows the document for the text of one suit.
func evaluateSuit(text string) evaluation {
	var e evaluation
	e.points = int64(4*strings.Count(text, "A") + 3*strings.Count(text, "K") + 2*strings.Count(text, "Q") + strings.Count(text, "J"))
	e.controls = int64(2*strings.Count(text, "A") + strings.Count(text, "K"))
	highest := [4]string{"", "A", "AK", "AKQ"}[min(len(text), 3)]
	for _, letter := range highest {
		if !strings.ContainsRune(text, letter) {
			e.losers++
		}
	}
	switch {
	case strings.HasPrefix(text, "AK"):
		e.quickTricks = 4
	case strings.HasPrefix(text, "AQ"):
		e.quickTricks = 3
	case strings.HasPrefix(text, "A"), strings.HasPrefix(text, "KQ"):
		e.quickTricks = 2
	case strings.HasPrefix(text, "K") && text != "K":
		e.quickTricks = 1
	}
	return e
}

// manyHands lists hands with every kind of suit: those of chapter 1, and more hands of each size.
func manyHands() [][]int64 {
	list := someHands()
	numbers := numberStream(2)
	for size := 0; size <= 13; size++ {
		for range 200 {
			list = append(list, numbers.someHand(size))
		}
	}
	return list
}

// handsOfHighCards lists hands of 13 cards in which each suit takes on every combination of ace,
// king, queen, jack and ten.
func handsOfHighCards() [][]int64 {
	var list [][]int64
	numbers := numberStream(3)
	for combination := 0; combination < 32; combination++ {
		for suit := int64(0); suit < 4; suit++ {
			hand := cardsOfRanks(suit, combination<<8)
			for len(hand) < 13 {
				if card := int64(numbers.below(52)); card/13 != suit && !slices.Contains(hand, card) {
					hand = append(hand, card)
				}
			}
			slices.Sort(hand)
			list = append(list, hand)
		}
	}
	return list
}

func TestLengthsAddUp(t *testing.T) {
	for _, hand := range slices.Concat(manyHands(), handsOfHighCards()) {
		var want [4]int64
		for _, card := range hand {
			want[strings.IndexByte("CDHS", cardTexts[card][0])]++
		}
		shape := impl.ShapeOf(hand)
		if !slices.Equal(shape, want[:]) {
			t.Fatalf("ShapeOf(%v) = %v, want %v", hand, shape, want)
		}
		if sum := shape[0] + shape[1] + shape[2] + shape[3]; sum != int64(len(hand)) {
			t.Errorf("the lengths of %v add up to %d", hand, sum)
		}
		slices.SortFunc(want[:], func(a, b int64) int { return int(b - a) })
		if pattern := impl.PatternOf(hand); !slices.Equal(pattern, want[:]) {
			t.Errorf("PatternOf(%v) = %v, want %v", hand, pattern, want)
		}
	}
}

func TestShapesOfSpecialHands(t *testing.T) {
	for _, c := range []struct {
		text           string
		shape, pattern []int64
	}{
		{"...", []int64{0, 0, 0, 0}, []int64{0, 0, 0, 0}},
		{"...2", []int64{1, 0, 0, 0}, []int64{1, 0, 0, 0}},
		{"A...", []int64{0, 0, 0, 1}, []int64{1, 0, 0, 0}},
		{".A..", []int64{0, 0, 1, 0}, []int64{1, 0, 0, 0}},
		{"..AKQJT98765432.", []int64{0, 13, 0, 0}, []int64{13, 0, 0, 0}},
		{"AKQJ...AKQJT9876", []int64{9, 0, 0, 4}, []int64{9, 4, 0, 0}},
		{"2.32.432.5432", []int64{4, 3, 2, 1}, []int64{4, 3, 2, 1}},
		{"5432.432.32.2", []int64{1, 2, 3, 4}, []int64{4, 3, 2, 1}},
		{"AKQ.AKQ.AKQ.AKQJ", []int64{4, 3, 3, 3}, []int64{4, 3, 3, 3}},
	} {
		hand, ok := impl.ReadHand(c.text)
		if !ok {
			t.Fatalf("ReadHand(%q) fails", c.text)
		}
		if shape, pattern := impl.ShapeOf(hand), impl.PatternOf(hand); !slices.Equal(shape, c.shape) || !slices.Equal(pattern, c.pattern) {
			t.Errorf("%q has shape %v and pattern %v, want %v and %v", c.text, shape, pattern, c.shape, c.pattern)
		}
	}
}

// Each combination of ranks that one suit can have, in each of the four suits.
func TestEverySuitAlone(t *testing.T) {
	for ranks := range 1 << 13 {
		text := textOfSuit(ranks)
		want := evaluateSuit(text)
		for suit := int64(0); suit < 4; suit++ {
			if got := evaluate(cardsOfRanks(suit, ranks)); got != want {
				t.Errorf("%q in suit %d counts %+v, want %+v", text, suit, got, want)
			}
		}
	}
}

func TestNamedCombinations(t *testing.T) {
	for _, c := range []struct {
		text string
		want evaluation
	}{
		{"", evaluation{0, 0, 0, 0}},
		{"2", evaluation{0, 0, 1, 0}},
		{"A", evaluation{4, 2, 0, 2}},
		{"K", evaluation{3, 1, 1, 0}},
		{"Q", evaluation{2, 0, 1, 0}},
		{"J", evaluation{1, 0, 1, 0}},
		{"32", evaluation{0, 0, 2, 0}},
		{"K2", evaluation{3, 1, 1, 1}},
		{"Q2", evaluation{2, 0, 2, 0}},
		{"QJ", evaluation{3, 0, 2, 0}},
		{"KQ", evaluation{5, 1, 1, 2}},
		{"KJ", evaluation{4, 1, 1, 1}},
		{"AQ", evaluation{6, 2, 1, 3}},
		{"AK", evaluation{7, 3, 0, 4}},
		{"A2", evaluation{4, 2, 1, 2}},
		{"AJ", evaluation{5, 2, 1, 2}},
		{"432", evaluation{0, 0, 3, 0}},
		{"QJT", evaluation{3, 0, 2, 0}},
		{"K32", evaluation{3, 1, 2, 1}},
		{"AK2", evaluation{7, 3, 1, 4}},
		{"AQ2", evaluation{6, 2, 1, 3}},
		{"KQ2", evaluation{5, 1, 1, 2}},
		{"AKQ", evaluation{9, 3, 0, 4}},
		{"AKQJ", evaluation{10, 3, 0, 4}},
		{"AKQJT", evaluation{10, 3, 0, 4}},
		{"5432", evaluation{0, 0, 3, 0}},
		{"T98765432", evaluation{0, 0, 3, 0}},
		{"AKQJT98765432", evaluation{10, 3, 0, 4}},
	} {
		for before := range 4 {
			text := strings.Repeat(".", before) + c.text + strings.Repeat(".", 3-before)
			hand, ok := impl.ReadHand(text)
			if got := evaluate(hand); !ok || got != c.want {
				t.Errorf("%q counts %+v, want %+v", text, got, c.want)
			}
		}
	}
}

func TestCountsAreSumsOverSuits(t *testing.T) {
	for _, hand := range slices.Concat(manyHands(), handsOfHighCards()) {
		var want, sum evaluation
		for _, text := range strings.Split(suitsText(hand), ".") {
			want = want.plus(evaluateSuit(text))
		}
		for suit := int64(0); suit < 4; suit++ {
			sum = sum.plus(evaluate(impl.CardsOfSuit(hand, suit)))
		}
		if got := evaluate(hand); got != want || got != sum {
			t.Errorf("%v counts %+v, want %+v; its suits alone count %+v", hand, got, want, sum)
		}
	}
}

func TestHonors(t *testing.T) {
	for _, hand := range slices.Concat(manyHands(), handsOfHighCards()) {
		var want [5]int64
		for _, card := range hand {
			text := cardTexts[card]
			if strings.Contains("TJQKA", text[1:]) {
				want[strings.IndexByte("CDHS", text[0])]++
			}
			if text[1] == 'A' {
				want[4]++
			}
		}
		for strain, honors := range want {
			if got := impl.HonorsOf(hand, int64(strain)); got != honors {
				t.Errorf("HonorsOf(%v, %d) = %d, want %d", hand, strain, got, honors)
			}
		}
		for _, strain := range outside(5) {
			if got := impl.HonorsOf(hand, strain); got != -1 {
				t.Errorf("HonorsOf(%v, %d) = %d, want -1", hand, strain, got)
			}
		}
	}
}

func TestHonorsOfSpecialHands(t *testing.T) {
	for _, c := range []struct {
		text string
		want [5]int64
	}{
		{"...", [5]int64{0, 0, 0, 0, 0}},
		{"A.A.A.A", [5]int64{1, 1, 1, 1, 4}},
		{"AKQJT...", [5]int64{0, 0, 0, 5, 1}},
		{"...AKQJT98765432", [5]int64{5, 0, 0, 0, 1}},
		{"9.T9.JT9.QJT98", [5]int64{3, 2, 1, 0, 0}},
		{"T98.T98.T98.T98", [5]int64{1, 1, 1, 1, 0}},
	} {
		hand, ok := impl.ReadHand(c.text)
		if !ok {
			t.Fatalf("ReadHand(%q) fails", c.text)
		}
		for strain, want := range c.want {
			if got := impl.HonorsOf(hand, int64(strain)); got != want {
				t.Errorf("HonorsOf of %q for %d = %d, want %d", c.text, strain, got, want)
			}
		}
	}
}

func TestEvaluationOfListsThatAreNoHands(t *testing.T) {
	for _, list := range notHands() {
		if shape, pattern := impl.ShapeOf(list), impl.PatternOf(list); len(shape) != 0 || len(pattern) != 0 {
			t.Errorf("%v has shape %v and pattern %v, want none", list, shape, pattern)
		}
		if got, want := evaluate(list), (evaluation{-1, -1, -1, -1}); got != want {
			t.Errorf("%v counts %+v, want %+v", list, got, want)
		}
		for _, strain := range append(outside(5), 0, 1, 2, 3, 4) {
			if got := impl.HonorsOf(list, strain); got != -1 {
				t.Errorf("HonorsOf(%v, %d) = %d, want -1", list, strain, got)
			}
		}
		if text := impl.HandText(list); text != "" {
			t.Errorf("HandText(%v) = %q, want the empty string", list, text)
		}
	}
}

func mustBeTextOf(t *testing.T, hand []int64, text string) {
	t.Helper()
	if got := impl.HandText(hand); got != text {
		t.Errorf("HandText(%v) = %q, want %q", hand, got, text)
	}
	if got, ok := impl.ReadHand(text); !ok || !slices.Equal(got, hand) {
		t.Errorf("ReadHand(%q) = %v, %v, want %v", text, got, ok, hand)
	}
}

func TestHandIsRecoveredFromText(t *testing.T) {
	mustBeTextOf(t, nil, "...")
	mustBeTextOf(t, []int64{0, 8, 51}, "A...T2")
	mustBeTextOf(t, []int64{0, 13, 26, 39}, "2.2.2.2")
	mustBeTextOf(t, cardRange(39, 51), "AKQJT98765432...")
	mustBeTextOf(t, cardRange(26, 38), ".AKQJT98765432..")
	mustBeTextOf(t, cardRange(13, 25), "..AKQJT98765432.")
	mustBeTextOf(t, cardRange(0, 12), "...AKQJT98765432")
	for card, text := range cardTexts {
		places := map[byte]string{'S': "x...", 'H': ".x..", 'D': "..x.", 'C': "...x"}
		mustBeTextOf(t, []int64{int64(card)}, strings.Replace(places[text[0]], "x", text[1:], 1))
	}
	for _, hand := range slices.Concat(manyHands(), handsOfHighCards()) {
		mustBeTextOf(t, hand, suitsText(hand))
	}
	for ranks := range 1 << 13 {
		mustBeTextOf(t, cardsOfRanks(2, ranks), "."+textOfSuit(ranks)+"..")
	}
}

func mustNotReadHand(t *testing.T, text string) {
	t.Helper()
	if hand, ok := impl.ReadHand(text); ok || len(hand) != 0 {
		t.Errorf("ReadHand(%q) = %v, %v, want none", text, hand, ok)
	}
}

func TestTextsThatAreNoHands(t *testing.T) {
	for _, text := range []string{
		"", ".", "..", "....", ".....", "A", "AKQ", "A..", "..A", "A....", "....A", "A.K.Q", "A.K.Q.J.T",
		"A...2T", "2A...", ".23..", "..JQ.", "AKQ2T...", "AA...", ".22..", "A.K.Q.JJ", "AKK.Q..", "AKA...",
		"a...", ".k..", "A...t2", "X...", "1...", "0...", "10...", "...10", "-...", "SA...", "A..D.", "A,K,Q,J",
		" ...", "... ", "A. ..", "A...T2 ", " A...T2", "A...T2\n", "A K...", "A...\x00", "\x00...", "A\x00...",
		"...é", "♠...", ".\xff..", "A;K.Q.J", "N...", "\n...", "A/K/Q/J", "A.K.Q.J.",
		"AKQJT98765432...2", "AKQJT98765432.A..", "2...AKQJT98765432", "AKQJ.AKQJ.AKQJ.AK", "5432.5432.5432.32",
		"AKQJT98765432.AKQJT98765432.AKQJT98765432.AKQJT98765432", "AKQJT987654321...", "AAKQJT98765432...",
		strings.Repeat(".", 1000), strings.Repeat("A", 1000) + "...", strings.Repeat("AK", 500),
	} {
		mustNotReadHand(t, text)
	}
}

func TestHandsOfOneCardTooMany(t *testing.T) {
	numbers := numberStream(4)
	for range 200 {
		mustNotReadHand(t, suitsText(numbers.someHand(14)))
		mustNotReadHand(t, suitsText(numbers.someHand(14+numbers.below(39))))
	}
}

// isHandText follows the document by the order of the letters alone.
func isHandText(text string) bool {
	suits := strings.Split(text, ".")
	if len(suits) != 4 || len(text) > 13+3 {
		return false
	}
	for _, suit := range suits {
		for i := range len(suit) {
			place := strings.IndexByte(suitLettersUp, suit[i])
			if place < 0 || i > 0 && place >= strings.IndexByte(suitLettersUp, suit[i-1]) {
				return false
			}
		}
	}
	return true
}

// Each byte is put before each byte of the text of a hand and into its place.
func TestTextsWithOneByteChanged(t *testing.T) {
	try := func(text string) {
		hand, ok := impl.ReadHand(text)
		if ok != isHandText(text) || ok && (!impl.IsHand(hand) || suitsText(hand) != text) || !ok && len(hand) != 0 {
			t.Errorf("ReadHand(%q) = %v, %v", text, hand, ok)
		}
	}
	for _, text := range []string{"AK32.Q2.K.AQ2", "A...T2", "AKQJT98765432...", ".K94.QJT873.A642"} {
		for i := range len(text) {
			try(text[:i] + text[i+1:])
			for b := range 256 {
				one := string([]byte{byte(b)})
				try(text[:i] + one + text[i+1:])
				try(text[:i] + one + text[i:])
			}
		}
	}
}

func TestMemoryOfEvaluation(t *testing.T) {
	for _, list := range slices.Concat(someHands(), notHands()) {
		checkMemory(t, "ShapeOf", list, impl.ShapeOf)
		checkMemory(t, "PatternOf", list, impl.PatternOf)
		checkMemory(t, "the counts", list, func(hand []int64) []int64 {
			e := evaluate(hand)
			return []int64{e.points, e.controls, e.losers, e.quickTricks}
		})
		for _, strain := range []int64{math.MinInt64, -1, 0, 1, 2, 3, 4, 5, math.MaxInt64} {
			checkMemory(t, "HonorsOf", list, func(hand []int64) []int64 {
				return []int64{impl.HonorsOf(hand, strain)}
			})
		}
		checkMemory(t, "HandText", list, func(hand []int64) []int64 {
			hand, _ = impl.ReadHand(impl.HandText(hand))
			return hand
		})
	}
}

func TestMemoryOfHandsThatAreRead(t *testing.T) {
	for _, hand := range someHands() {
		text := suitsText(hand)
		first, _ := impl.ReadHand(text)
		second, _ := impl.ReadHand(text)
		overwrite(second)
		if !slices.Equal(first, hand) {
			t.Errorf("two hands that are read from %q share memory", text)
		}
	}
}

// ShapeOf and PatternOf of one hand are two results.
func TestMemoryOfShapeAndPattern(t *testing.T) {
	for _, hand := range someHands() {
		shape, kept := impl.ShapeOf(hand), impl.ShapeOf(hand)
		overwrite(impl.PatternOf(hand))
		if !slices.Equal(shape, kept) {
			t.Errorf("the shape of %v follows its pattern", hand)
		}
	}
}
