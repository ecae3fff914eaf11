package tests

import (
	"math"
	"slices"
	"strings"
	"testing"

	"loop.example/g00854/impl"
)

// The signatures of chapter 1.
var (
	_ func(int64, int64) int64              = impl.CardOf
	_ func(int64) int64                     = impl.SuitOf
	_ func(int64) int64                     = impl.RankOf
	_ func(int64) string                    = impl.CardText
	_ func(string) (int64, bool)            = impl.ReadCard
	_ func([]int64) bool                    = impl.IsHand
	_ func([]int64, int64) []int64          = impl.CardsOfSuit
	_ func([]int64, int64) ([]int64, int64) = impl.HandWith
	_ func([]int64, int64) ([]int64, int64) = impl.HandWithout
)

// cardTexts lists the texts of the cards by their numbers, written out so that the tests do not
// follow the program's own rule.
var cardTexts = strings.Fields(`
	C2 C3 C4 C5 C6 C7 C8 C9 CT CJ CQ CK CA
	D2 D3 D4 D5 D6 D7 D8 D9 DT DJ DQ DK DA
	H2 H3 H4 H5 H6 H7 H8 H9 HT HJ HQ HK HA
	S2 S3 S4 S5 S6 S7 S8 S9 ST SJ SQ SK SA`)

func TestConstants(t *testing.T) {
	got := []int64{
		impl.ErrNone, impl.ErrInvalid, impl.ErrRange, impl.ErrLimit, impl.ErrNotFound, impl.ErrState,
		impl.ErrSyntax, impl.Cards, impl.MaxHand,
	}
	if want := []int64{0, 1, 2, 3, 4, 5, 6, 52, 13}; !slices.Equal(got, want) {
		t.Fatalf("constants %v, want %v", got, want)
	}
}

func TestCardIsRecoveredFromSuitAndRank(t *testing.T) {
	card := int64(0)
	for suit := int64(0); suit < 4; suit++ {
		for rank := int64(0); rank < 13; rank++ {
			if got := impl.CardOf(suit, rank); got != card {
				t.Errorf("CardOf(%d, %d) = %d, want %d", suit, rank, got, card)
			}
			if gotSuit, gotRank := impl.SuitOf(card), impl.RankOf(card); gotSuit != suit || gotRank != rank {
				t.Errorf("card %d has suit %d and rank %d, want %d and %d", card, gotSuit, gotRank, suit, rank)
			}
			card++
		}
	}
}

func TestCardIsRecoveredFromText(t *testing.T) {
	for card, text := range cardTexts {
		if got := impl.CardText(int64(card)); got != text {
			t.Errorf("CardText(%d) = %q, want %q", card, got, text)
		}
		if got, ok := impl.ReadCard(text); !ok || got != int64(card) {
			t.Errorf("ReadCard(%q) = %d, %v, want %d", text, got, ok, card)
		}
	}
}

func TestNumbersThatAreNoCard(t *testing.T) {
	for _, card := range outside(52) {
		if suit, rank := impl.SuitOf(card), impl.RankOf(card); suit != -1 || rank != -1 {
			t.Errorf("%d has suit %d and rank %d, want -1 and -1", card, suit, rank)
		}
		if text := impl.CardText(card); text != "" {
			t.Errorf("CardText(%d) = %q, want the empty string", card, text)
		}
	}
}

func TestCardOfNoSuitOrRank(t *testing.T) {
	check := func(suit, rank int64) {
		if card := impl.CardOf(suit, rank); card != -1 {
			t.Errorf("CardOf(%d, %d) = %d, want -1", suit, rank, card)
		}
	}
	for _, suit := range outside(4) {
		for rank := int64(0); rank < 13; rank++ {
			check(suit, rank)
		}
		for _, rank := range outside(13) {
			check(suit, rank)
		}
	}
	for suit := int64(0); suit < 4; suit++ {
		for _, rank := range outside(13) {
			check(suit, rank)
		}
	}
}

func mustNotRead(t *testing.T, text string) {
	t.Helper()
	if card, ok := impl.ReadCard(text); ok || card != 0 {
		t.Errorf("ReadCard(%q) = %d, %v, want 0, false", text, card, ok)
	}
}

func TestTextsThatAreNoCards(t *testing.T) {
	for _, text := range []string{
		"", "C", "2", "c2", "Ca", "sA", "10", "C10", "C1", "C0", "N2", "XX", "C ", " 2", " C2", "C2 ",
		"C2\n", "\x00\x00", "C\x00", "\x002", "♣2", "C2C2", "S♠", "É", "\xff\xff", strings.Repeat("C2", 1000),
	} {
		mustNotRead(t, text)
	}
	for _, text := range cardTexts {
		mustNotRead(t, text[1:]+text[:1])
		mustNotRead(t, strings.ToLower(text))
		mustNotRead(t, strings.ToLower(text[:1])+text[1:])
		if text[1] >= 'A' {
			mustNotRead(t, text[:1]+strings.ToLower(text[1:]))
		}
	}
}

func TestAllTextsOfOneByteAndTwoBytes(t *testing.T) {
	numbers := map[string]int64{}
	for card, text := range cardTexts {
		numbers[text] = int64(card)
	}
	for first := range 256 {
		mustNotRead(t, string([]byte{byte(first)}))
		for second := range 256 {
			text := string([]byte{byte(first), byte(second)})
			want, is := numbers[text]
			if card, ok := impl.ReadCard(text); ok != is || card != want {
				t.Errorf("ReadCard(%q) = %d, %v, want %d, %v", text, card, ok, want, is)
			}
		}
	}
}

func TestTextsWithOneByteMoreOrLess(t *testing.T) {
	for _, text := range cardTexts {
		mustNotRead(t, text[:1])
		mustNotRead(t, text[1:])
		for extra := range 256 {
			one := string([]byte{byte(extra)})
			mustNotRead(t, one+text)
			mustNotRead(t, text+one)
			mustNotRead(t, text[:1]+one+text[1:])
		}
	}
}

// notHands lists lists that are no hands, each for another reason or at another place.
func notHands() [][]int64 {
	list := [][]int64{
		{1, 1}, {2, 1}, {51, 0}, {0, 5, 5}, {0, 0, 5}, {0, 5, 4, 6}, {52}, {-1}, {0, 52}, {-1, 0},
		{math.MaxInt64}, {math.MinInt64}, {0, math.MaxInt64}, {math.MinInt64, 0},
		{math.MinInt64, math.MaxInt64}, {51, 52}, {-2, -1}, {1 << 32}, {1, 1 << 32}, {-(1 << 32), 1},
		cardRange(0, 13), cardRange(38, 51), cardRange(0, 14), cardRange(0, 51), cardRange(40, 52),
		cardRange(-1, 11), make([]int64, 13), make([]int64, 14), make([]int64, 1000),
	}
	full := cardRange(20, 32)
	for i := range full {
		for _, wrong := range []int64{-1, 52, math.MinInt64, math.MaxInt64} {
			changed := slices.Clone(full)
			changed[i] = wrong
			list = append(list, changed)
		}
	}
	for i := range full[1:] {
		repeated := slices.Clone(full)
		repeated[i+1] = repeated[i]
		exchanged := slices.Clone(full)
		exchanged[i], exchanged[i+1] = exchanged[i+1], exchanged[i]
		list = append(list, repeated, exchanged)
	}
	return list
}

// someHands lists hands of every size, the ends of the range of cards among them.
func someHands() [][]int64 {
	list := [][]int64{nil, {}, {0}, {51}, {0, 51}, {12, 13, 25, 26, 38, 39}}
	numbers := numberStream(1)
	for size := 0; size <= 13; size++ {
		list = append(list, cardRange(0, int64(size)-1), cardRange(52-int64(size), 51))
		for range 8 {
			list = append(list, numbers.someHand(size))
		}
	}
	for first := int64(0); first < 52; first += 13 {
		list = append(list, cardRange(first, first+12))
	}
	return list
}

func TestHandsAndOtherLists(t *testing.T) {
	for _, hand := range someHands() {
		if !impl.IsHand(hand) {
			t.Errorf("%v is a hand", hand)
		}
	}
	for _, list := range notHands() {
		if impl.IsHand(list) {
			t.Errorf("%v is not a hand", list)
		}
	}
}

func TestAllShortLists(t *testing.T) {
	isCard := func(n int64) bool { return 0 <= n && n <= 51 }
	for a := int64(-1); a <= 52; a++ {
		if got := impl.IsHand([]int64{a}); got != isCard(a) {
			t.Errorf("IsHand(%d) = %v", a, got)
		}
		for b := int64(-1); b <= 52; b++ {
			pair := isCard(a) && isCard(b) && a < b
			if got := impl.IsHand([]int64{a, b}); got != pair {
				t.Errorf("IsHand(%d, %d) = %v", a, b, got)
			}
			for c := int64(-1); c <= 52; c++ {
				if got := impl.IsHand([]int64{a, b, c}); got != (pair && isCard(c) && b < c) {
					t.Errorf("IsHand(%d, %d, %d) = %v", a, b, c, got)
				}
			}
		}
	}
}

func TestCardsOfSuit(t *testing.T) {
	for _, hand := range someHands() {
		for suit := int64(0); suit < 4; suit++ {
			var want []int64
			for _, card := range hand {
				if card >= 13*suit && card < 13*suit+13 {
					want = append(want, card)
				}
			}
			if got := impl.CardsOfSuit(hand, suit); !slices.Equal(got, want) {
				t.Errorf("CardsOfSuit(%v, %d) = %v, want %v", hand, suit, got, want)
			}
		}
		for _, suit := range outside(4) {
			if got := impl.CardsOfSuit(hand, suit); len(got) != 0 {
				t.Errorf("CardsOfSuit(%v, %d) = %v, want none", hand, suit, got)
			}
		}
	}
	for _, list := range notHands() {
		for suit := int64(-1); suit <= 4; suit++ {
			if got := impl.CardsOfSuit(list, suit); len(got) != 0 {
				t.Errorf("CardsOfSuit(%v, %d) = %v, want none", list, suit, got)
			}
		}
	}
}

// sortedWith and listWithout say what the results are, by other means than the program.
func sortedWith(hand []int64, card int64) []int64 {
	list := append(slices.Clone(hand), card)
	slices.Sort(list)
	return list
}

func listWithout(hand []int64, card int64) []int64 {
	return slices.DeleteFunc(slices.Clone(hand), func(held int64) bool { return held == card })
}

func mustGive(t *testing.T, what string, hand []int64, card int64, got []int64, code int64, want []int64, wantCode int64) {
	t.Helper()
	if code != wantCode || !slices.Equal(got, want) {
		t.Errorf("%s(%v, %d) = %v, code %d, want %v, code %d", what, hand, card, got, code, want, wantCode)
	}
}

func TestHandWithEveryCard(t *testing.T) {
	for _, hand := range someHands() {
		for card := int64(0); card < 52; card++ {
			got, code := impl.HandWith(hand, card)
			switch {
			case slices.Contains(hand, card):
				mustGive(t, "HandWith", hand, card, got, code, nil, impl.ErrState)
			case len(hand) == 13:
				mustGive(t, "HandWith", hand, card, got, code, nil, impl.ErrLimit)
			default:
				mustGive(t, "HandWith", hand, card, got, code, sortedWith(hand, card), impl.ErrNone)
			}
		}
	}
}

func TestHandWithoutEveryCard(t *testing.T) {
	for _, hand := range someHands() {
		for card := int64(0); card < 52; card++ {
			got, code := impl.HandWithout(hand, card)
			if slices.Contains(hand, card) {
				mustGive(t, "HandWithout", hand, card, got, code, listWithout(hand, card), impl.ErrNone)
			} else {
				mustGive(t, "HandWithout", hand, card, got, code, nil, impl.ErrNotFound)
			}
		}
	}
}

// A number that is no card is one that no hand has; only HandWith has a code of its own for it,
// also where the hand is full.
func TestHandsAndNumbersThatAreNoCard(t *testing.T) {
	for _, hand := range someHands() {
		for _, card := range outside(52) {
			got, code := impl.HandWith(hand, card)
			mustGive(t, "HandWith", hand, card, got, code, nil, impl.ErrRange)
			got, code = impl.HandWithout(hand, card)
			mustGive(t, "HandWithout", hand, card, got, code, nil, impl.ErrNotFound)
		}
	}
}

// A list that is no hand comes before every other error: a number that is no card, a card that
// the list has or has not, and a list that is too long.
func TestListsThatAreNoHandsComeFirst(t *testing.T) {
	for _, list := range notHands() {
		cards := append(cardRange(-1, 52), math.MinInt64, math.MaxInt64)
		for _, card := range cards {
			got, code := impl.HandWith(list, card)
			mustGive(t, "HandWith", list, card, got, code, nil, impl.ErrInvalid)
			got, code = impl.HandWithout(list, card)
			mustGive(t, "HandWithout", list, card, got, code, nil, impl.ErrInvalid)
		}
	}
}

func TestTwoConditionsAtOnce(t *testing.T) {
	full := cardRange(0, 12)
	tooLong := cardRange(0, 13)
	for _, c := range []struct {
		name string
		call func([]int64, int64) ([]int64, int64)
		hand []int64
		card int64
		code int64
	}{
		{"no hand, no card", impl.HandWith, []int64{2, 1}, 52, impl.ErrInvalid},
		{"no hand, has the card", impl.HandWith, []int64{1, 1}, 1, impl.ErrInvalid},
		{"no hand for its length, new card", impl.HandWith, tooLong, 20, impl.ErrInvalid},
		{"no hand for its length, has the card", impl.HandWith, tooLong, 13, impl.ErrInvalid},
		{"the list has a number that is no card", impl.HandWith, []int64{52}, 52, impl.ErrInvalid},
		{"full, no card", impl.HandWith, full, -1, impl.ErrRange},
		{"full, no card above", impl.HandWith, full, 52, impl.ErrRange},
		{"full, has the card", impl.HandWith, full, 12, impl.ErrState},
		{"full, has the first card", impl.HandWith, full, 0, impl.ErrState},
		{"no hand, does not have the card", impl.HandWithout, []int64{2, 1}, 3, impl.ErrInvalid},
		{"no hand, has the card", impl.HandWithout, []int64{2, 1}, 2, impl.ErrInvalid},
		{"no hand, no card", impl.HandWithout, tooLong, 52, impl.ErrInvalid},
	} {
		if got, code := c.call(c.hand, c.card); code != c.code || len(got) != 0 {
			t.Errorf("%s: %v, code %d, want none, code %d", c.name, got, code, c.code)
		}
	}
}

func TestAddingAndRemovingRestoresTheHand(t *testing.T) {
	for _, hand := range someHands() {
		for card := int64(0); card < 52; card++ {
			if longer, code := impl.HandWith(hand, card); code == impl.ErrNone {
				back, code := impl.HandWithout(longer, card)
				mustGive(t, "HandWithout after HandWith", hand, card, back, code, hand, impl.ErrNone)
			}
			if shorter, code := impl.HandWithout(hand, card); code == impl.ErrNone {
				back, code := impl.HandWith(shorter, card)
				mustGive(t, "HandWith after HandWithout", hand, card, back, code, hand, impl.ErrNone)
			}
		}
	}
}

func TestHandsGrowAndShrinkCardByCard(t *testing.T) {
	order := []int64{30, 0, 51, 12, 13, 38, 39, 25, 26, 7, 44, 1, 50}
	var hand []int64
	for i, card := range order {
		longer, code := impl.HandWith(hand, card)
		if code != impl.ErrNone || !impl.IsHand(longer) || len(longer) != i+1 {
			t.Fatalf("HandWith(%v, %d) = %v, code %d", hand, card, longer, code)
		}
		hand = longer
	}
	for i, card := range order {
		shorter, code := impl.HandWithout(hand, card)
		if code != impl.ErrNone || !impl.IsHand(shorter) || len(shorter) != 12-i {
			t.Fatalf("HandWithout(%v, %d) = %v, code %d", hand, card, shorter, code)
		}
		hand = shorter
	}
}

func TestMemoryOfHands(t *testing.T) {
	for _, list := range append(someHands(), notHands()...) {
		checkMemory(t, "IsHand", list, func(hand []int64) []int64 {
			impl.IsHand(hand)
			return nil
		})
		for suit := int64(-1); suit <= 4; suit++ {
			checkMemory(t, "CardsOfSuit", list, func(hand []int64) []int64 {
				return impl.CardsOfSuit(hand, suit)
			})
		}
		for card := int64(-1); card <= 52; card++ {
			checkMemory(t, "HandWith", list, func(hand []int64) []int64 {
				longer, _ := impl.HandWith(hand, card)
				return longer
			})
			checkMemory(t, "HandWithout", list, func(hand []int64) []int64 {
				shorter, _ := impl.HandWithout(hand, card)
				return shorter
			})
		}
	}
}
