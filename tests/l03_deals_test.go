package tests

import (
	"math"
	"slices"
	"strings"
	"testing"

	"loop.example/g00854/impl"
)

// The signatures of chapter 3.
var (
	_ [][]int64                                        = impl.Deal{}.Hands
	_ func(impl.Deal) bool                             = impl.IsDeal
	_ func(impl.Deal) []int64                          = impl.CardsOfDeal
	_ func(impl.Deal, int64) int64                     = impl.HolderOf
	_ func(impl.Deal, int64, int64) (impl.Deal, int64) = impl.ExchangeCards
	_ func(impl.Deal, int64) (impl.Deal, int64)        = impl.RotateDeal
	_ func(impl.Deal) impl.Deal                        = impl.MirrorDeal
	_ func(impl.Deal, []int64) (impl.Deal, int64)      = impl.PermuteSuits
	_ func(impl.Deal) string                           = impl.DealText
	_ func(string) (impl.Deal, bool)                   = impl.ReadDeal
)

func dealOf(hands ...[]int64) impl.Deal { return impl.Deal{Hands: hands} }

// smallDeal is the deal of the document's examples.
func smallDeal() impl.Deal { return dealOf([]int64{0}, []int64{1}, []int64{2}, []int64{3}) }

// holderTable says of each card who holds it, with nobody for a card that is not in play. A deal
// and its table say the same, and a symmetry of a table needs no sorting, so that the tests do not
// follow the program's own way.
type holderTable [52]int

const nobody = -1

func tableOf(d impl.Deal) holderTable {
	var table holderTable
	for card := range table {
		table[card] = nobody
	}
	for seat, hand := range d.Hands {
		for _, card := range hand {
			table[card] = seat
		}
	}
	return table
}

func (table holderTable) deal() impl.Deal {
	hands := make([][]int64, 4)
	for card, seat := range table {
		if seat != nobody {
			hands[seat] = append(hands[seat], int64(card))
		}
	}
	return impl.Deal{Hands: hands}
}

// movedSeats gives the cards of each seat to another one.
func (table holderTable) movedSeats(to [4]int) holderTable {
	for card, seat := range table {
		if seat != nobody {
			table[card] = to[seat]
		}
	}
	return table
}

// movedSuits finds the card in another suit by its text.
func (table holderTable) movedSuits(to []int64) holderTable {
	var moved holderTable
	for card, text := range cardTexts {
		suit := strings.IndexByte("CDHS", text[0])
		other := "CDHS"[to[suit]:][:1] + text[1:]
		moved[slices.Index(cardTexts, other)] = table[card]
	}
	return moved
}

func (table holderTable) exchanged(a, b int64) holderTable {
	table[a], table[b] = table[b], table[a]
	return table
}

// someDeal deals a number of cards to each seat.
func (n *numberStream) someDeal(size int) impl.Deal {
	pack := cardRange(0, 51)
	for i := range pack {
		j := i + n.below(52-i)
		pack[i], pack[j] = pack[j], pack[i]
	}
	hands := make([][]int64, 4)
	for seat := range hands {
		hands[seat] = slices.Sorted(slices.Values(pack[seat*size : (seat+1)*size]))
	}
	return impl.Deal{Hands: hands}
}

// someDeals lists deals of every size, those of whole suits and of whole ranks among them.
func someDeals() []impl.Deal {
	list := []impl.Deal{
		dealOf(nil, nil, nil, nil),
		dealOf([]int64{}, nil, []int64{}, nil),
		smallDeal(),
		dealOf([]int64{51}, []int64{38}, []int64{25}, []int64{12}),
		dealOf([]int64{0}, []int64{51}, []int64{13}, []int64{39}),
		dealOf([]int64{0, 5}, []int64{6, 7}, []int64{8, 9}, []int64{10, 11}),
		dealOf([]int64{0, 51}, []int64{12, 39}, []int64{13, 38}, []int64{25, 26}),
		dealOf(cardRange(0, 12), cardRange(13, 25), cardRange(26, 38), cardRange(39, 51)),
		dealOf(cardRange(39, 51), cardRange(0, 12), cardRange(13, 25), cardRange(26, 38)),
		everyFourthCard(),
	}
	numbers := numberStream(5)
	for size := 0; size <= 13; size++ {
		for range 4 {
			list = append(list, numbers.someDeal(size))
		}
	}
	return list
}

func everyFourthCard() impl.Deal {
	var table holderTable
	for card := range table {
		table[card] = card % 4
	}
	return table.deal()
}

// notDeals lists values that are no deal: a wrong number of hands, hands of unequal length, lists
// that are no hands at each seat, and a card that two hands have.
func notDeals() []impl.Deal {
	list := []impl.Deal{
		{}, dealOf(), dealOf(nil), dealOf(nil, nil), dealOf(nil, nil, nil), dealOf(nil, nil, nil, nil, nil),
		dealOf([]int64{0}, []int64{1}, []int64{2}),
		dealOf([]int64{0}, []int64{1}, []int64{2}, []int64{3}, []int64{4}),
		dealOf([]int64{0}, []int64{1}, []int64{2}, []int64{3}, nil),
		dealOf(cardRange(0, 51)),
		dealOf(cardRange(0, 12), cardRange(13, 25), cardRange(26, 38), cardRange(39, 51), nil),
		dealOf(cardRange(0, 13), cardRange(14, 27), cardRange(28, 41), cardRange(42, 55)),
		dealOf(cardRange(0, 13), cardRange(0, 13), cardRange(0, 13), cardRange(0, 13)),
		dealOf(cardRange(0, 13), cardRange(14, 25), cardRange(26, 38), cardRange(39, 51)),
		{Hands: slices.Repeat([][]int64{nil}, 1000)},
	}
	numbers := numberStream(6)
	for _, size := range []int{0, 1, 2, 5, 12, 13} {
		for seat := range 4 {
			list = append(list, withWrongHands(numbers.someDeal(size), seat)...)
		}
	}
	for _, hand := range notHands() {
		list = append(list, dealOf(hand, hand, hand, hand))
	}
	return list
}

// withWrongHands lists what becomes of a deal if the hand of one seat is made wrong.
func withWrongHands(d impl.Deal, seat int) []impl.Deal {
	var list []impl.Deal
	put := func(hand []int64) {
		hands := slices.Clone(d.Hands)
		hands[seat] = hand
		list = append(list, impl.Deal{Hands: hands})
	}
	hand := d.Hands[seat]
	for card := int64(0); card < 52; card++ {
		if !slices.Contains(hand, card) {
			put(sortedWith(hand, card))
		}
	}
	for i, card := range hand {
		put(listWithout(hand, card))
		for other := range 4 {
			if other != seat {
				put(sortedWith(listWithout(hand, card), d.Hands[other][i]))
			}
		}
		for _, wrong := range []int64{-1, 52, math.MinInt64, math.MaxInt64} {
			put(sortedWith(listWithout(hand, card), wrong))
		}
	}
	for i := range max(len(hand)-1, 0) {
		unsorted := slices.Clone(hand)
		unsorted[i], unsorted[i+1] = unsorted[i+1], unsorted[i]
		put(unsorted)
		repeated := slices.Clone(hand)
		repeated[i] = repeated[i+1]
		put(repeated)
	}
	for other := range 4 {
		if other != seat && len(hand) > 0 {
			put(d.Hands[other])
		}
	}
	return list
}

func sameDeal(d, e impl.Deal) bool { return sameLists(d.Hands, e.Hands) }

func mustBeDeal(t *testing.T, what string, got, want impl.Deal) {
	t.Helper()
	if !sameDeal(got, want) {
		t.Errorf("%s: %v, want %v", what, got, want)
	}
}

// mustSucceed passes on the deal that a call returned without an error.
func mustSucceed(t *testing.T, what string) func(impl.Deal, int64) impl.Deal {
	t.Helper()
	return func(d impl.Deal, code int64) impl.Deal {
		t.Helper()
		if code != impl.ErrNone || !impl.IsDeal(d) {
			t.Fatalf("%s: %v, code %d", what, d, code)
		}
		return d
	}
}

func mustFail(t *testing.T, what string, d impl.Deal, code, want int64) {
	t.Helper()
	if code != want || len(d.Hands) != 0 {
		t.Errorf("%s: %v, code %d, want none, code %d", what, d, code, want)
	}
}

func TestDealsAndOtherValues(t *testing.T) {
	for _, d := range someDeals() {
		if !impl.IsDeal(d) {
			t.Errorf("%v is a deal", d)
		}
	}
	for _, d := range notDeals() {
		if impl.IsDeal(d) {
			t.Errorf("%v is not a deal", d)
		}
	}
}

// Four hands of up to two cards out of four, all of them, against the words of the document.
func TestAllSmallDeals(t *testing.T) {
	var lists [][]int64
	for a := int64(0); a < 4; a++ {
		lists = append(lists, []int64{a})
		for b := int64(0); b < 4; b++ {
			lists = append(lists, []int64{a, b})
		}
	}
	lists = append(lists, nil)
	for _, n := range lists {
		for _, e := range lists {
			for _, s := range lists {
				for _, w := range lists {
					want := impl.IsHand(n) && impl.IsHand(e) && impl.IsHand(s) && impl.IsHand(w) &&
						len(n) == len(e) && len(n) == len(s) && len(n) == len(w)
					all := slices.Sorted(slices.Values(slices.Concat(n, e, s, w)))
					want = want && len(slices.Compact(all)) == 4*len(n)
					if got := impl.IsDeal(dealOf(n, e, s, w)); got != want {
						t.Fatalf("IsDeal of %v, %v, %v, %v = %v", n, e, s, w, got)
					}
				}
			}
		}
	}
}

func TestCardsOfDeals(t *testing.T) {
	for _, d := range someDeals() {
		var want []int64
		for card, seat := range tableOf(d) {
			if seat != nobody {
				want = append(want, int64(card))
			}
		}
		if got := impl.CardsOfDeal(d); !slices.Equal(got, want) {
			t.Errorf("CardsOfDeal(%v) = %v, want %v", d, got, want)
		}
		if len(d.Hands[0]) == 13 && !slices.Equal(want, cardRange(0, 51)) {
			t.Errorf("%v is no full deal", d)
		}
	}
}

func TestEveryCardInPlayHasOneHolder(t *testing.T) {
	for _, d := range someDeals() {
		for card, seat := range tableOf(d) {
			if got := impl.HolderOf(d, int64(card)); got != int64(seat) {
				t.Errorf("HolderOf(%v, %d) = %d, want %d", d, card, got, seat)
			}
		}
		for _, card := range impl.CardsOfDeal(d) {
			for seat, hand := range d.Hands {
				if held := impl.HolderOf(d, card) == int64(seat); held != slices.Contains(hand, card) {
					t.Errorf("HolderOf(%v, %d) = %d", d, card, impl.HolderOf(d, card))
				}
			}
		}
		for _, card := range outside(52) {
			if got := impl.HolderOf(d, card); got != -1 {
				t.Errorf("HolderOf(%v, %d) = %d, want -1", d, card, got)
			}
		}
	}
}

func TestValuesThatAreNoDeals(t *testing.T) {
	for _, d := range notDeals() {
		if cards := impl.CardsOfDeal(d); len(cards) != 0 {
			t.Errorf("CardsOfDeal(%v) = %v, want none", d, cards)
		}
		for card := int64(-1); card <= 52; card++ {
			if holder := impl.HolderOf(d, card); holder != -1 {
				t.Errorf("HolderOf(%v, %d) = %d, want -1", d, card, holder)
			}
		}
		mustBeDeal(t, "MirrorDeal of no deal", impl.MirrorDeal(d), impl.Deal{})
		if text := impl.DealText(d); text != "" {
			t.Errorf("DealText(%v) = %q, want the empty string", d, text)
		}
	}
}

// A value that is no deal comes before every other error.
func TestValuesThatAreNoDealsComeFirst(t *testing.T) {
	for _, d := range notDeals() {
		for _, k := range []int64{0, 1, 2, 3, -1, 4, math.MinInt64, math.MaxInt64} {
			got, code := impl.RotateDeal(d, k)
			mustFail(t, "RotateDeal of no deal", got, code, impl.ErrInvalid)
		}
		for _, to := range append(notSuitOrders(), suitOrders()...) {
			got, code := impl.PermuteSuits(d, to)
			mustFail(t, "PermuteSuits of no deal", got, code, impl.ErrInvalid)
		}
		for _, pair := range [][2]int64{{0, 1}, {0, 0}, {3, 3}, {0, 50}, {50, 0}, {-1, 0}, {0, 52}, {-1, 52}, {math.MinInt64, math.MaxInt64}} {
			got, code := impl.ExchangeCards(d, pair[0], pair[1])
			mustFail(t, "ExchangeCards of no deal", got, code, impl.ErrInvalid)
		}
	}
}

func TestExamplesOfSymmetries(t *testing.T) {
	d, code := impl.ExchangeCards(smallDeal(), 0, 3)
	mustBeDeal(t, "0 and 3 exchanged", mustSucceed(t, "ExchangeCards")(d, code), dealOf([]int64{3}, []int64{1}, []int64{2}, []int64{0}))
	d, code = impl.RotateDeal(smallDeal(), 1)
	mustBeDeal(t, "rotated by 1", mustSucceed(t, "RotateDeal")(d, code), dealOf([]int64{3}, []int64{0}, []int64{1}, []int64{2}))
	mustBeDeal(t, "mirrored", impl.MirrorDeal(smallDeal()), dealOf([]int64{0}, []int64{3}, []int64{2}, []int64{1}))
	d, code = impl.PermuteSuits(smallDeal(), []int64{1, 0, 2, 3})
	mustBeDeal(t, "clubs and diamonds exchanged", mustSucceed(t, "PermuteSuits")(d, code), dealOf([]int64{13}, []int64{14}, []int64{15}, []int64{16}))
	// Each suit moves on by one, which tells the list from its inverse.
	d, code = impl.PermuteSuits(dealOf([]int64{0, 12}, []int64{13, 14}, []int64{26, 51}, []int64{38, 39}), []int64{1, 2, 3, 0})
	mustBeDeal(t, "suits moved on", mustSucceed(t, "PermuteSuits")(d, code), dealOf([]int64{13, 25}, []int64{26, 27}, []int64{12, 39}, []int64{0, 51}))
}

func TestRotations(t *testing.T) {
	moves := [4][4]int{{0, 1, 2, 3}, {1, 2, 3, 0}, {2, 3, 0, 1}, {3, 0, 1, 2}}
	for _, d := range someDeals() {
		for k, to := range moves {
			got := mustSucceed(t, "RotateDeal")(impl.RotateDeal(d, int64(k)))
			mustBeDeal(t, "RotateDeal", got, tableOf(d).movedSeats(to).deal())
		}
	}
}

func TestRotationsCanBeUndone(t *testing.T) {
	for _, d := range someDeals() {
		turned := d
		for range 4 {
			turned = mustSucceed(t, "RotateDeal")(impl.RotateDeal(turned, 1))
		}
		mustBeDeal(t, "four rotations by 1", turned, d)
		for j := int64(0); j < 4; j++ {
			turned := mustSucceed(t, "RotateDeal")(impl.RotateDeal(d, j))
			back := mustSucceed(t, "RotateDeal")(impl.RotateDeal(turned, (4-j)%4))
			mustBeDeal(t, "a rotation and the one that undoes it", back, d)
			for k := int64(0); k < 4; k++ {
				twice := mustSucceed(t, "RotateDeal")(impl.RotateDeal(turned, k))
				once := mustSucceed(t, "RotateDeal")(impl.RotateDeal(d, (j+k)%4))
				mustBeDeal(t, "two rotations", twice, once)
			}
		}
	}
}

func TestRotationsOutsideTheRange(t *testing.T) {
	for _, d := range someDeals() {
		for _, k := range outside(4) {
			got, code := impl.RotateDeal(d, k)
			mustFail(t, "RotateDeal outside the range", got, code, impl.ErrRange)
		}
	}
}

func TestMirrorImages(t *testing.T) {
	for _, d := range someDeals() {
		mirrored := impl.MirrorDeal(d)
		mustBeDeal(t, "MirrorDeal", mirrored, tableOf(d).movedSeats([4]int{0, 3, 2, 1}).deal())
		mustBeDeal(t, "two mirror images", impl.MirrorDeal(mirrored), d)
		for k := int64(0); k < 4; k++ {
			turned := mustSucceed(t, "RotateDeal")(impl.RotateDeal(mirrored, k))
			back := mustSucceed(t, "RotateDeal")(impl.RotateDeal(impl.MirrorDeal(turned), k))
			mustBeDeal(t, "a rotation before a mirror image and after it", back, d)
		}
	}
}

// listsOfSuits lists the lists of four suits, those with each suit once and those that repeat one.
func listsOfSuits() (each, repeating [][]int64) {
	for number := range int64(256) {
		to := []int64{number / 64, number / 16 % 4, number / 4 % 4, number % 4}
		if len(slices.Compact(slices.Sorted(slices.Values(to)))) == 4 {
			each = append(each, to)
		} else {
			repeating = append(repeating, to)
		}
	}
	return each, repeating
}

func suitOrders() [][]int64 {
	each, _ := listsOfSuits()
	return each
}

// notSuitOrders lists lists that are too short or too long, that repeat a suit, or that hold a
// number that is no suit.
func notSuitOrders() [][]int64 {
	list := [][]int64{
		nil, {}, {0}, {3}, {0, 1}, {0, 1, 2}, {1, 2, 3}, {0, 1, 2, 3, 0}, {0, 1, 2, 3, 3}, {0, 1, 2, 3, 4},
		{-1, 0, 1, 2, 3}, {0, 1, 2, 3, 0, 1, 2, 3}, {1, 2, 3, 4}, {-1, 0, 1, 2}, {0, 0, 0, 0}, {3, 3, 3, 3},
		{0, 3, 0, 3}, {1, 1, 1, 3}, {0, 2, 2, 2}, {0, 0, 3, 3}, {-3, -2, -1, 0}, make([]int64, 1000),
		slices.Repeat([]int64{0, 1, 2, 3}, 100),
	}
	_, repeating := listsOfSuits()
	list = append(list, repeating...)
	for place := range 4 {
		for _, wrong := range outside(4) {
			to := []int64{2, 0, 3, 1}
			to[place] = wrong
			list = append(list, to)
		}
	}
	return list
}

func inverseOf(to []int64) []int64 {
	back := make([]int64, 4)
	for suit, other := range to {
		back[other] = int64(suit)
	}
	return back
}

func TestPermutedSuits(t *testing.T) {
	orders := suitOrders()
	if len(orders) != 24 {
		t.Fatalf("%d lists of suits, want 24", len(orders))
	}
	for _, d := range someDeals() {
		for _, to := range orders {
			got := mustSucceed(t, "PermuteSuits")(impl.PermuteSuits(d, to))
			mustBeDeal(t, "PermuteSuits", got, tableOf(d).movedSuits(to).deal())
			back := mustSucceed(t, "PermuteSuits")(impl.PermuteSuits(got, inverseOf(to)))
			mustBeDeal(t, "a list of suits and its inverse", back, d)
		}
	}
}

func TestListsThatAreNoOrderOfSuits(t *testing.T) {
	for _, d := range someDeals() {
		for _, to := range notSuitOrders() {
			got, code := impl.PermuteSuits(d, to)
			mustFail(t, "PermuteSuits", got, code, impl.ErrRange)
		}
	}
}

// All pairs of cards: of two hands, of one hand, a card with itself, and cards not in play.
func TestExchangedCards(t *testing.T) {
	for _, d := range someDeals() {
		table := tableOf(d)
		for a := int64(0); a < 52; a++ {
			for b := int64(0); b < 52; b++ {
				got, code := impl.ExchangeCards(d, a, b)
				if table[a] == nobody || table[b] == nobody {
					mustFail(t, "ExchangeCards of a card not in play", got, code, impl.ErrNotFound)
					continue
				}
				mustBeDeal(t, "ExchangeCards", mustSucceed(t, "ExchangeCards")(got, code), table.exchanged(a, b).deal())
				if table[a] == table[b] {
					mustBeDeal(t, "two cards of one hand", got, d)
				}
				back := mustSucceed(t, "ExchangeCards")(impl.ExchangeCards(got, a, b))
				mustBeDeal(t, "an exchange made twice", back, d)
			}
		}
	}
}

func TestExchangesOfNumbersThatAreNoCards(t *testing.T) {
	for _, d := range someDeals() {
		for _, wrong := range outside(52) {
			for _, other := range []int64{0, 1, 51, wrong, -1, 52} {
				got, code := impl.ExchangeCards(d, wrong, other)
				mustFail(t, "ExchangeCards", got, code, impl.ErrNotFound)
				got, code = impl.ExchangeCards(d, other, wrong)
				mustFail(t, "ExchangeCards", got, code, impl.ErrNotFound)
			}
		}
	}
}

// textOfDeal makes the text of a deal of the texts of its cards.
func textOfDeal(d impl.Deal) string {
	return "N:" + suitsText(d.Hands[0]) + " " + suitsText(d.Hands[1]) + " " + suitsText(d.Hands[2]) + " " + suitsText(d.Hands[3])
}

func mustBeTextOfDeal(t *testing.T, d impl.Deal, text string) {
	t.Helper()
	if got := impl.DealText(d); got != text {
		t.Errorf("DealText(%v) = %q, want %q", d, got, text)
	}
	if got, ok := impl.ReadDeal(text); !ok || !sameDeal(got, d) {
		t.Errorf("ReadDeal(%q) = %v, %v, want %v", text, got, ok, d)
	}
}

func TestDealIsRecoveredFromText(t *testing.T) {
	mustBeTextOfDeal(t, dealOf(nil, nil, nil, nil), "N:... ... ... ...")
	mustBeTextOfDeal(t, smallDeal(), "N:...2 ...3 ...4 ...5")
	mustBeTextOfDeal(t, dealOf([]int64{51}, []int64{38}, []int64{25}, []int64{12}), "N:A... .A.. ..A. ...A")
	mustBeTextOfDeal(t, dealOf(cardRange(0, 12), cardRange(13, 25), cardRange(26, 38), cardRange(39, 51)),
		"N:...AKQJT98765432 ..AKQJT98765432. .AKQJT98765432.. AKQJT98765432...")
	for _, d := range someDeals() {
		mustBeTextOfDeal(t, d, textOfDeal(d))
	}
	numbers := numberStream(7)
	for size := range 14 {
		for range 100 {
			d := numbers.someDeal(size)
			mustBeTextOfDeal(t, d, textOfDeal(d))
		}
	}
}

func mustNotReadDeal(t *testing.T, text string) {
	t.Helper()
	if d, ok := impl.ReadDeal(text); ok || len(d.Hands) != 0 {
		t.Errorf("ReadDeal(%q) = %v, %v, want none", text, d, ok)
	}
}

func TestTextsThatAreNoDeals(t *testing.T) {
	for _, text := range []string{
		"", "N", ":", "N:", "N: ", "N:   ", " N:", "N:...", "N:... ...", "N:... ... ...", "N:... ... ... ... ...",
		"N:...2 ...3 ...4 ...4", "N:...2 ...2 ...4 ...5", "N:...2 ...3 ...2 ...5", "N:...2 ...3 ...4 ...2",
		"N:...2 ...3 ...4", "N:...2 ...3 ...4 ...5 ...6", "N:...2 ...3 ...4 ...5 ...", "N:...2 ...3 ...4 ... ...5",
		"...2 ...3 ...4 ...5", ":...2 ...3 ...4 ...5", "N...2 ...3 ...4 ...5", "E:...2 ...3 ...4 ...5",
		"S:...2 ...3 ...4 ...5", "W:...2 ...3 ...4 ...5", "n:...2 ...3 ...4 ...5", "X:...2 ...3 ...4 ...5",
		"N::...2 ...3 ...4 ...5", "N;...2 ...3 ...4 ...5", "NN:...2 ...3 ...4 ...5", "N:N:...2 ...3 ...4 ...5",
		" N:...2 ...3 ...4 ...5", "N: ...2 ...3 ...4 ...5", "N :...2 ...3 ...4 ...5", "N:...2 ...3 ...4 ...5 ",
		"N:...2  ...3 ...4 ...5", "N:...2 ...3  ...4 ...5", "N:...2 ...3 ...4  ...5", "N:...2 ...3 ...4 ...5\n",
		"N:...2\t...3 ...4 ...5", "N:...2\n...3 ...4 ...5", "N:...2,...3,...4,...5", "N:...2...3...4...5",
		"N:...2 ...3 ...4 ...", "N:... ...3 ...4 ...5", "N:...32 ...4 ...5 ...6", "N:...2 ...3 ...4 ...65",
		"N:...2 ...3 ...4 ...X", "N:...2 ...3 ...4 ..5", "N:...2 ...3 ...4 ....5", "N:...2 ...3 ...4 5",
		"N:...23 ...54 ...76 ...98", "N:...32 ...54 ...67 ...98", "N:...22 ...33 ...44 ...55", "N:...a ...3 ...4 ...5",
		"N:...AKQJT98765432 ..AKQJT98765432. .AKQJT98765432.. AKQJT98765432... ",
		"N:...AKQJT98765432 ..AKQJT98765432. .AKQJT98765432.. AKQJT9876543...",
		"N:...AKQJT98765432 ..AKQJT98765432. .AKQJT98765432.. ...AKQJT98765432",
		"N:2...AKQJT98765432 3..AKQJT98765432. 4.AKQJT98765432.. AKQJT98765...2",
		"N:" + strings.Repeat("... ", 1000), "N:" + strings.Repeat("... ", 1000) + "...", strings.Repeat("N:", 1000),
		strings.Repeat(" ", 1000), "N:...2 ...3 ...4 ...\x00", "\x00", "N:...2 ...3 ...4 ...5\x00", "N:…2 …3 …4 …5",
	} {
		mustNotReadDeal(t, text)
	}
}

// The text that a value would have if it were a deal.
func TestTextsOfValuesThatAreNoDeals(t *testing.T) {
	isCard := func(card int64) bool { return card >= 0 && card < 52 }
	for _, d := range notDeals() {
		var texts []string
		readable := true
		for _, hand := range d.Hands {
			// suitsText writes an unsorted hand as the list that it is, and knows only cards.
			readable = readable && !slices.ContainsFunc(hand, func(card int64) bool { return !isCard(card) })
			if readable {
				texts = append(texts, suitsText(hand))
			}
		}
		if text := "N:" + strings.Join(texts, " "); readable && !isDealText(text) {
			mustNotReadDeal(t, text)
		}
	}
}

// isDealText follows the document by the letters alone.
func isDealText(text string) bool {
	if len(text) < 2 || text[:2] != "N:" {
		return false
	}
	hands := strings.Split(text[2:], " ")
	if len(hands) != 4 {
		return false
	}
	seen := map[[2]byte]bool{}
	for _, hand := range hands {
		if !isHandText(hand) || len(hand) != len(hands[0]) {
			return false
		}
		for place, suit := range strings.Split(hand, ".") {
			for i := range len(suit) {
				card := [2]byte{byte(place), suit[i]}
				if seen[card] {
					return false
				}
				seen[card] = true
			}
		}
	}
	return true
}

// Each byte is put before each byte of the text of a deal and into its place; a text is either
// refused or the text of the deal that is read from it.
func TestTextsOfDealsWithOneByteChanged(t *testing.T) {
	try := func(text string) {
		d, ok := impl.ReadDeal(text)
		if ok != isDealText(text) || ok && (!impl.IsDeal(d) || impl.DealText(d) != text || textOfDeal(d) != text) || !ok && len(d.Hands) != 0 {
			t.Errorf("ReadDeal(%q) = %v, %v", text, d, ok)
		}
	}
	for _, text := range []string{
		"N:... ... ... ...", "N:...2 ...3 ...4 ...5", "N:A..5.2 K..6.3 Q..7.4 J..8.9",
		"N:...AKQJT98765432 ..AKQJT98765432. .AKQJT98765432.. AKQJT98765432...", textOfDeal(everyFourthCard()),
	} {
		try(text)
		for i := range len(text) + 1 {
			rest := text[i:]
			if i < len(text) {
				rest = text[i+1:]
				try(text[:i] + rest)
			}
			for b := range 256 {
				one := string([]byte{byte(b)})
				try(text[:i] + one + rest)
				try(text[:i] + one + text[i:])
			}
		}
	}
}

// handsOf drops the code of a call, so that only the memory of its deal is looked at.
func handsOf(d impl.Deal, _ int64) [][]int64 { return d.Hands }

// dealsForMemory lists the deals, and the values that are no deal without most of those that
// differ by one card alone.
func dealsForMemory() []impl.Deal {
	list := someDeals()
	for i, d := range notDeals() {
		if i < 15 || i%11 == 0 {
			list = append(list, d)
		}
	}
	return list
}

func TestMemoryOfDeals(t *testing.T) {
	for _, d := range dealsForMemory() {
		checkDealMemory(t, "IsDeal and HolderOf", d, func(d impl.Deal) [][]int64 {
			impl.IsDeal(d)
			impl.HolderOf(d, 3)
			return nil
		})
		checkDealMemory(t, "CardsOfDeal", d, func(d impl.Deal) [][]int64 { return [][]int64{impl.CardsOfDeal(d)} })
		checkDealMemory(t, "MirrorDeal", d, func(d impl.Deal) [][]int64 { return impl.MirrorDeal(d).Hands })
		checkDealMemory(t, "DealText and ReadDeal", d, func(d impl.Deal) [][]int64 {
			read, _ := impl.ReadDeal(impl.DealText(d))
			return read.Hands
		})
		for k := int64(-1); k <= 4; k++ {
			checkDealMemory(t, "RotateDeal", d, func(d impl.Deal) [][]int64 { return handsOf(impl.RotateDeal(d, k)) })
		}
	}
}

func TestMemoryOfPermutedSuits(t *testing.T) {
	lists := append(suitOrders(), nil, []int64{0, 1, 2}, []int64{0, 1, 2, 2}, []int64{0, 1, 2, 3, 3})
	for _, d := range dealsForMemory() {
		for _, to := range lists {
			checkDealMemory(t, "PermuteSuits", d, func(d impl.Deal) [][]int64 { return handsOf(impl.PermuteSuits(d, to)) })
			checkMemory(t, "the list of PermuteSuits", to, func(to []int64) []int64 {
				return slices.Concat(handsOf(impl.PermuteSuits(d, to))...)
			})
		}
	}
}

// A card of one hand with a card of another one, with one of the same hand, with itself and with
// one that is not in play.
func TestMemoryOfExchangedCards(t *testing.T) {
	for _, d := range dealsForMemory() {
		cards := []int64{0, 52}
		for _, hand := range d.Hands {
			cards = append(cards, hand[:min(len(hand), 2)]...)
		}
		for _, a := range cards[:min(len(cards), 4)] {
			for _, b := range cards {
				checkDealMemory(t, "ExchangeCards", d, func(d impl.Deal) [][]int64 { return handsOf(impl.ExchangeCards(d, a, b)) })
			}
		}
	}
}
