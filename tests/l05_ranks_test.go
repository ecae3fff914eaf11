package tests

import (
	"math"
	"slices"
	"strings"
	"testing"

	"loop.example/g00854/impl"
)

// The signatures of chapter 5.
var (
	_ func(impl.Deal) [][]int64                 = impl.HolderLists
	_ func([][]int64) (impl.Deal, int64)        = impl.DealOfHolders
	_ func(impl.Deal) impl.Deal                 = impl.RelativeDeal
	_ func(impl.Deal, int64) ([]int64, int64)   = impl.EquivalentCards
	_ func(impl.Deal, int64) ([][]int64, int64) = impl.GroupsOf
	_ func(int64) [][]int64                     = impl.SuitOrders
	_ func(impl.Deal, int64) (impl.Deal, int64) = impl.CanonicalDeal
	_ func(impl.Deal, impl.Deal, int64) bool    = impl.SameUpToSuits
)

// holders reads the holders of each suit from the lowest card up and puts each one in front.
func (table holderTable) holders() [][]int64 {
	lists := make([][]int64, 4)
	for card, seat := range table {
		if seat != nobody {
			lists[card/13] = slices.Insert(lists[card/13], 0, int64(seat))
		}
	}
	return lists
}

// raised moves cards up by one rank as long as one has a free place above it, so that the relative
// form comes about without counting ranks.
func (table holderTable) raised() holderTable {
	for moved := true; moved; {
		moved = false
		for card := range 51 {
			free := card%13 < 12 && table[card+1] == nobody
			if free && table[card] != nobody {
				table[card], table[card+1] = nobody, table[card]
				moved = true
			}
		}
	}
	return table
}

// equivalent compares two cards as the document does.
func (table holderTable) equivalent(a, b int) bool {
	if table[a] == nobody || table[a] != table[b] || a/13 != b/13 {
		return false
	}
	for between := min(a, b) + 1; between < max(a, b); between++ {
		if table[between] != nobody && table[between] != table[a] {
			return false
		}
	}
	return true
}

// lowered gives the cards of each suit other ranks without changing their order.
func (table holderTable) lowered(numbers *numberStream) holderTable {
	var spread holderTable
	for card := range spread {
		spread[card] = nobody
	}
	for suit, list := range table.holders() {
		var ranks []int
		for len(ranks) < len(list) {
			if rank := numbers.below(13); !slices.Contains(ranks, rank) {
				ranks = append(ranks, rank)
			}
		}
		slices.Sort(ranks)
		for i, seat := range list {
			spread[13*suit+ranks[len(ranks)-1-i]] = int(seat)
		}
	}
	return spread
}

// allowedLists chooses among the lists that the tests of chapter 3 make.
func allowedLists(strain int64) [][]int64 {
	return slices.DeleteFunc(suitOrders(), func(to []int64) bool { return strain != 4 && to[strain] != strain })
}

// smallestForm makes all deals of the document's definition and sorts them.
func smallestForm(d impl.Deal, strain int64) impl.Deal {
	var forms []impl.Deal
	for _, to := range allowedLists(strain) {
		forms = append(forms, tableOf(d).raised().movedSuits(to).deal())
	}
	return slices.MinFunc(forms, func(a, b impl.Deal) int {
		return slices.Compare(slices.Concat(a.Hands...), slices.Concat(b.Hands...))
	})
}

// kindOf is the same text exactly for deals that are the same up to relative ranks and allowed
// lists: the holders of trumps, and those of the other suits in an order of their own.
func kindOf(d impl.Deal, strain int64) string {
	var trumps string
	var others []string
	for suit, list := range tableOf(d).holders() {
		var letters []byte
		for _, seat := range list {
			letters = append(letters, "NESW"[seat])
		}
		if int64(suit) == strain {
			trumps = string(letters)
		} else {
			others = append(others, string(letters))
		}
	}
	slices.Sort(others)
	return trumps + ":" + strings.Join(others, ",")
}

// relativeDealsOfOneCard lists all relative deals of one card a hand: each seat in turn is put into
// each place of the holders of each suit.
func relativeDealsOfOneCard() []impl.Deal {
	made := [][][]int64{{nil, nil, nil, nil}}
	for seat := range int64(4) {
		var longer [][][]int64
		for _, lists := range made {
			for suit, list := range lists {
				for place := range len(list) + 1 {
					more := slices.Clone(lists)
					more[suit] = slices.Insert(slices.Clone(list), place, seat)
					longer = append(longer, more)
				}
			}
		}
		made = longer
	}
	var deals []impl.Deal
	for _, lists := range made {
		deals = append(deals, dealWithHolders(lists))
	}
	return deals
}

// dealWithHolders fills each suit from the ace down.
func dealWithHolders(lists [][]int64) impl.Deal {
	var table holderTable
	for card := range table {
		table[card] = nobody
	}
	for suit, list := range lists {
		for i, seat := range list {
			table[13*suit+12-i] = int(seat)
		}
	}
	return table.deal()
}

// dealsOfEquivalentCards lists deals with groups of all kinds: whole suits, gaps of cards that are
// not in play, neighbours in two suits, and every second card.
func dealsOfEquivalentCards() []impl.Deal {
	return append(someDeals(),
		dealOf([]int64{0, 7}, []int64{5, 6}, []int64{8, 9}, []int64{10, 13}),
		dealOf([]int64{0, 12}, []int64{13, 25}, []int64{26, 38}, []int64{39, 51}),
		dealOf([]int64{12, 13}, []int64{25, 26}, []int64{38, 39}, []int64{0, 51}),
		dealOf([]int64{11, 12, 13}, []int64{24, 25, 26}, []int64{37, 38, 39}, []int64{0, 1, 51}),
		dealOf([]int64{0, 2, 4}, []int64{1, 3, 5}, []int64{13, 15, 17}, []int64{14, 16, 18}),
		dealOf([]int64{0, 4, 12}, []int64{2, 15, 16}, []int64{13, 17, 25}, []int64{30, 31, 33}),
	)
}

func mustHaveHolders(t *testing.T, d impl.Deal, want [][]int64) {
	t.Helper()
	if got := impl.HolderLists(d); !sameLists(got, want) {
		t.Errorf("HolderLists(%v) = %v, want %v", d, got, want)
	}
}

func TestExamplesOfHolders(t *testing.T) {
	lists := [][]int64{{3, 2, 1, 0}, {}, {}, {}}
	mustHaveHolders(t, smallDeal(), lists)
	aces := dealOf([]int64{9}, []int64{10}, []int64{11}, []int64{12})
	mustBeDeal(t, "the deal of the example", mustSucceed(t, "DealOfHolders")(impl.DealOfHolders(lists)), aces)
	mustBeDeal(t, "the relative form of the example", impl.RelativeDeal(smallDeal()), aces)
	mustHaveHolders(t, dealOf([]int64{51}, []int64{38}, []int64{25}, []int64{12}), [][]int64{{3}, {2}, {1}, {0}})
	mustHaveHolders(t, dealOf([]int64{0, 5}, []int64{6, 7}, []int64{8, 9}, []int64{10, 11}), [][]int64{{3, 3, 2, 2, 1, 1, 0, 0}, {}, {}, {}})
	empty := dealOf(nil, nil, nil, nil)
	mustHaveHolders(t, empty, [][]int64{nil, nil, nil, nil})
	mustBeDeal(t, "four empty lists", mustSucceed(t, "DealOfHolders")(impl.DealOfHolders([][]int64{nil, {}, nil, {}})), empty)
	mustBeDeal(t, "four empty hands", impl.RelativeDeal(empty), empty)
	whole := dealOf(cardRange(0, 12), cardRange(13, 25), cardRange(26, 38), cardRange(39, 51))
	mustHaveHolders(t, whole, [][]int64{make([]int64, 13), slices.Repeat([]int64{1}, 13), slices.Repeat([]int64{2}, 13), slices.Repeat([]int64{3}, 13)})
}

func TestRelativeDealIsRecoveredFromHolders(t *testing.T) {
	check := func(d impl.Deal) {
		t.Helper()
		table := tableOf(d)
		mustHaveHolders(t, d, table.holders())
		relative := table.raised().deal()
		mustBeDeal(t, "DealOfHolders", mustSucceed(t, "DealOfHolders")(impl.DealOfHolders(table.holders())), relative)
		mustBeDeal(t, "DealOfHolders of HolderLists", mustSucceed(t, "DealOfHolders")(impl.DealOfHolders(impl.HolderLists(d))), relative)
		mustHaveHolders(t, relative, table.holders())
	}
	for _, d := range append(dealsOfEquivalentCards(), relativeDealsOfOneCard()...) {
		check(d)
	}
	numbers := numberStream(13)
	for size := range 14 {
		for range 50 {
			check(numbers.someDeal(size))
		}
	}
}

func TestRelativeForms(t *testing.T) {
	check := func(d impl.Deal) {
		t.Helper()
		relative := impl.RelativeDeal(d)
		mustBeDeal(t, "RelativeDeal", relative, tableOf(d).raised().deal())
		mustBeDeal(t, "the relative form of a relative form", impl.RelativeDeal(relative), relative)
		mustHaveHolders(t, relative, impl.HolderLists(d))
		for seat, hand := range d.Hands {
			if got, want := impl.ShapeOf(relative.Hands[seat]), impl.ShapeOf(hand); !slices.Equal(got, want) {
				t.Errorf("the lengths of %v in the relative form of %v are %v, want %v", hand, d, got, want)
			}
		}
		if len(d.Hands[0]) == 13 {
			mustBeDeal(t, "the relative form of a full deal", relative, d)
		}
	}
	for _, d := range append(dealsOfEquivalentCards(), relativeDealsOfOneCard()...) {
		check(d)
	}
	numbers := numberStream(14)
	for size := range 14 {
		for range 50 {
			d := numbers.someDeal(size)
			check(d)
			other := tableOf(d).lowered(&numbers).deal()
			mustBeDeal(t, "a deal with other ranks", impl.RelativeDeal(other), impl.RelativeDeal(d))
		}
	}
}

func mustNotDealHolders(t *testing.T, lists [][]int64, want int64) {
	t.Helper()
	d, code := impl.DealOfHolders(lists)
	if code != want || len(d.Hands) != 0 {
		t.Errorf("DealOfHolders(%v) = %v, code %d, want none, code %d", lists, d, code, want)
	}
}

// notHolderLists lists lists that are not four, that are too long or that hold a number that is no
// seat, some with seats that occur equally often and some without.
func notHolderLists() [][][]int64 {
	all := []int64{0, 1, 2, 3}
	list := [][][]int64{
		nil, {}, {nil}, {nil, nil, nil}, {nil, nil, nil, nil, nil}, {all}, {all, nil, nil}, {all, nil, nil, nil, nil},
		{all, all, all, all, all}, {nil, nil, nil, nil, all}, {{0}, {1}, {2}}, {{0}, {1}, {2}, {3}, nil}, {{0}}, {{0}, nil, nil},
		{{0, 0}, {1}, nil, nil, {3}}, {{-1}, {4}, nil}, {make([]int64, 14)}, slices.Repeat([][]int64{nil}, 1000),
	}
	for suit := range 4 {
		for _, long := range [][]int64{
			slices.Concat(all, all, all, []int64{0, 1}), make([]int64, 14), slices.Repeat([]int64{3}, 14),
			slices.Repeat(all, 4), slices.Repeat(all, 13), slices.Repeat([]int64{-1}, 14), make([]int64, 1000),
		} {
			lists := make([][]int64, 4)
			lists[suit] = long
			list = append(list, slices.Clone(lists))
			lists[(suit+1)%4] = []int64{2, 3}
			list = append(list, lists)
		}
		for _, wrong := range outside(4) {
			for place := range 4 {
				lists := [][]int64{all, all, all, all}
				lists[suit] = slices.Clone(all)
				lists[suit][place] = wrong
				list = append(list, lists)
			}
			lists := make([][]int64, 4)
			lists[suit] = []int64{wrong}
			list = append(list, lists)
		}
	}
	return list
}

func TestListsThatAreNoHolders(t *testing.T) {
	for _, lists := range notHolderLists() {
		mustNotDealHolders(t, lists, impl.ErrInvalid)
	}
	// A list of 13 elements is no longer than the limit.
	full := [][]int64{nil, nil, nil, nil}
	for i := range 52 {
		full[i%4] = append(full[i%4], int64(i/13))
	}
	mustSucceed(t, "DealOfHolders")(impl.DealOfHolders(full))
}

func TestSeatsThatDoNotOccurEquallyOften(t *testing.T) {
	rounds := func(k int) []int64 { return slices.Repeat([]int64{0, 1, 2, 3}, k) }
	ones := func(k int, seat int64) []int64 { return slices.Repeat([]int64{seat}, k) }
	for _, lists := range [][][]int64{
		{{0}, nil, nil, nil}, {nil, {1}, nil, nil}, {nil, nil, {2}, nil}, {nil, nil, nil, {3}},
		{{3, 2, 1}, nil, nil, nil}, {{0, 1}, {2}, nil, nil}, {{0}, {0}, {0}, {0}}, {{1}, {2}, {3}, {3}},
		{{0, 1, 2, 3}, {0}, {1}, {2}}, {rounds(3), rounds(3), rounds(3), {0}}, {rounds(3), {0, 0, 1, 1}, nil, nil},
		// A seat that occurs more than 13 times.
		{ones(13, 0), ones(1, 0), nil, nil}, {ones(13, 0), ones(13, 0), ones(13, 0), ones(13, 0)},
		{ones(13, 0), ones(13, 1), ones(13, 2), append(ones(12, 3), 0)}, {ones(13, 3), ones(13, 3), ones(13, 2), ones(13, 1)},
		{ones(13, 0), ones(13, 1), ones(13, 2), ones(12, 3)}, {ones(12, 0), ones(13, 1), ones(13, 2), ones(13, 3)},
	} {
		mustNotDealHolders(t, lists, impl.ErrState)
	}
	// One seat more, one less and one in place of another, for each holder of some deals.
	numbers := numberStream(15)
	for size := 1; size <= 13; size++ {
		good := tableOf(numbers.someDeal(size)).holders()
		for suit, list := range good {
			for place, seat := range list {
				changed := slices.Clone(good)
				changed[suit] = slices.Delete(slices.Clone(list), place, place+1)
				mustNotDealHolders(t, changed, impl.ErrState)
				for step := int64(1); step < 4; step++ {
					changed[suit] = slices.Clone(list)
					changed[suit][place] = (seat + step) % 4
					mustNotDealHolders(t, changed, impl.ErrState)
				}
			}
			if len(list) < 13 {
				changed := slices.Clone(good)
				changed[suit] = append(slices.Clone(list), int64(size%4))
				mustNotDealHolders(t, changed, impl.ErrState)
			}
		}
	}
}

// All ways to fill one suit with up to six seats, against a count of the seats.
func TestAllShortListsOfHolders(t *testing.T) {
	for length := range 7 {
		for number := range 1 << (2 * length) {
			var list []int64
			var counts [4]int
			for i := range length {
				seat := number >> (2 * i) & 3
				list = append(list, int64(seat))
				counts[seat]++
			}
			lists := [][]int64{nil, nil, list, nil}
			if counts != [4]int{counts[0], counts[0], counts[0], counts[0]} {
				mustNotDealHolders(t, lists, impl.ErrState)
				continue
			}
			mustBeDeal(t, "DealOfHolders", mustSucceed(t, "DealOfHolders")(impl.DealOfHolders(lists)), dealWithHolders(lists))
		}
	}
}

func TestRelativeFormsOfValuesThatAreNoDeals(t *testing.T) {
	for _, d := range notDeals() {
		if lists := impl.HolderLists(d); len(lists) != 0 {
			t.Errorf("HolderLists(%v) = %v, want none", d, lists)
		}
		mustBeDeal(t, "RelativeDeal of no deal", impl.RelativeDeal(d), impl.Deal{})
	}
}

func mustBeEquivalentTo(t *testing.T, d impl.Deal, card int64, want []int64, wantCode int64) {
	t.Helper()
	if got, code := impl.EquivalentCards(d, card); code != wantCode || !slices.Equal(got, want) {
		t.Errorf("EquivalentCards(%v, %d) = %v, code %d, want %v, code %d", d, card, got, code, want, wantCode)
	}
}

func mustBeGroups(t *testing.T, d impl.Deal, seat int64, want [][]int64, wantCode int64) {
	t.Helper()
	if got, code := impl.GroupsOf(d, seat); code != wantCode || !sameLists(got, want) {
		t.Errorf("GroupsOf(%v, %d) = %v, code %d, want %v, code %d", d, seat, got, code, want, wantCode)
	}
}

func TestExamplesOfEquivalentCards(t *testing.T) {
	d := dealOf([]int64{0, 5}, []int64{6, 7}, []int64{8, 9}, []int64{10, 11})
	mustBeEquivalentTo(t, d, 0, []int64{0, 5}, impl.ErrNone)
	mustBeEquivalentTo(t, d, 5, []int64{0, 5}, impl.ErrNone)
	mustBeEquivalentTo(t, d, 3, nil, impl.ErrNotFound)
	for seat, hand := range d.Hands {
		mustBeGroups(t, d, int64(seat), [][]int64{hand}, impl.ErrNone)
	}
	d = dealOf([]int64{0, 7}, []int64{5, 6}, []int64{8, 9}, []int64{10, 13})
	mustBeGroups(t, d, 0, [][]int64{{0}, {7}}, impl.ErrNone)
	mustBeGroups(t, d, 3, [][]int64{{10}, {13}}, impl.ErrNone)
	// The ace of a suit and the two of the next one are neighbours by their numbers alone.
	d = dealOf([]int64{12, 13}, []int64{25, 26}, []int64{38, 39}, []int64{0, 51})
	mustBeGroups(t, d, 0, [][]int64{{12}, {13}}, impl.ErrNone)
	mustBeEquivalentTo(t, d, 13, []int64{13}, impl.ErrNone)
	mustBeGroups(t, dealOf(nil, nil, nil, nil), 2, nil, impl.ErrNone)
	mustBeGroups(t, dealOf(cardRange(39, 51), cardRange(0, 12), cardRange(13, 25), cardRange(26, 38)), 0, [][]int64{cardRange(39, 51)}, impl.ErrNone)
}

// checkEquivalence compares every two cards of a deal, and puts the groups of a seat together of
// what is found so.
func checkEquivalence(t *testing.T, d impl.Deal) {
	t.Helper()
	table := tableOf(d)
	groups := make([][][]int64, 4)
	for card := range table {
		if table[card] == nobody {
			mustBeEquivalentTo(t, d, int64(card), nil, impl.ErrNotFound)
			continue
		}
		var group []int64
		for other := range table {
			if table.equivalent(card, other) {
				group = append(group, int64(other))
			}
		}
		mustBeEquivalentTo(t, d, int64(card), group, impl.ErrNone)
		if group[0] == int64(card) {
			groups[table[card]] = append(groups[table[card]], group)
		}
	}
	for seat, want := range groups {
		mustBeGroups(t, d, int64(seat), want, impl.ErrNone)
		got, _ := impl.GroupsOf(d, int64(seat))
		if divided := slices.Sorted(slices.Values(slices.Concat(got...))); !slices.Equal(divided, d.Hands[seat]) {
			t.Errorf("the groups of the seat %d in %v hold %v", seat, d, divided)
		}
	}
}

func TestEquivalentCardsAndGroups(t *testing.T) {
	for _, d := range dealsOfEquivalentCards() {
		checkEquivalence(t, d)
		checkEquivalence(t, tableOf(d).raised().deal())
	}
	for i, d := range relativeDealsOfOneCard() {
		if i%20 == 0 {
			checkEquivalence(t, d)
		}
	}
	numbers := numberStream(16)
	for size := range 14 {
		for range 20 {
			d := numbers.someDeal(size)
			checkEquivalence(t, d)
			// Cards of one suit or two give longer groups.
			checkEquivalence(t, dealOfCards(cardRange(0, int64(4*size)-1), &numbers))
		}
	}
}

// dealOfCards deals given cards, several in a row to the same seat as often as not.
func dealOfCards(cards []int64, numbers *numberStream) impl.Deal {
	size := len(cards) / 4
	hands := make([][]int64, 4)
	seat := 0
	for _, card := range cards {
		if numbers.below(2) == 0 {
			seat = numbers.below(4)
		}
		for len(hands[seat]) == size {
			seat = (seat + 1) % 4
		}
		hands[seat] = append(hands[seat], card)
	}
	return impl.Deal{Hands: hands}
}

func TestEquivalenceOutsideTheRange(t *testing.T) {
	for _, d := range dealsOfEquivalentCards() {
		for _, card := range append(outside(52), -1, 52) {
			mustBeEquivalentTo(t, d, card, nil, impl.ErrNotFound)
		}
		for _, seat := range append(outside(4), -1, 4) {
			mustBeGroups(t, d, seat, nil, impl.ErrRange)
		}
	}
}

// A value that is no deal comes before a card that is not in play and a number that is no seat.
func TestEquivalenceInValuesThatAreNoDeals(t *testing.T) {
	for _, d := range notDeals() {
		for _, number := range []int64{0, 1, 3, -1, 4, 51, 52, math.MinInt64, math.MaxInt64} {
			mustBeEquivalentTo(t, d, number, nil, impl.ErrInvalid)
			mustBeGroups(t, d, number, nil, impl.ErrInvalid)
		}
	}
}

func TestOrdersOfSuits(t *testing.T) {
	counts := []int{6, 6, 6, 6, 24}
	for strain, count := range counts {
		orders := impl.SuitOrders(int64(strain))
		if !sameLists(orders, allowedLists(int64(strain))) || len(orders) != count {
			t.Errorf("SuitOrders(%d) = %v", strain, orders)
		}
		if !slices.IsSortedFunc(orders, slices.Compare[[]int64]) || !slices.Equal(orders[0], []int64{0, 1, 2, 3}) {
			t.Errorf("SuitOrders(%d) = %v is not in order", strain, orders)
		}
		for _, to := range orders {
			mustSucceed(t, "PermuteSuits")(impl.PermuteSuits(smallDeal(), to))
		}
	}
	spades := [][]int64{{0, 1, 2, 3}, {0, 2, 1, 3}, {1, 0, 2, 3}, {1, 2, 0, 3}, {2, 0, 1, 3}, {2, 1, 0, 3}}
	diamonds := [][]int64{{0, 1, 2, 3}, {0, 1, 3, 2}, {2, 1, 0, 3}, {2, 1, 3, 0}, {3, 1, 0, 2}, {3, 1, 2, 0}}
	if !sameLists(impl.SuitOrders(3), spades) || !sameLists(impl.SuitOrders(1), diamonds) {
		t.Errorf("SuitOrders(3) = %v, SuitOrders(1) = %v", impl.SuitOrders(3), impl.SuitOrders(1))
	}
	for _, strain := range append(outside(5), -1, 5) {
		if orders := impl.SuitOrders(strain); len(orders) != 0 {
			t.Errorf("SuitOrders(%d) = %v, want none", strain, orders)
		}
	}
}

func canonical(t *testing.T, d impl.Deal, strain int64) impl.Deal {
	t.Helper()
	return mustSucceed(t, "CanonicalDeal")(impl.CanonicalDeal(d, strain))
}

func TestExamplesOfCanonicalDeals(t *testing.T) {
	diamonds := dealOf([]int64{13}, []int64{14}, []int64{15}, []int64{16})
	clubs := dealOf([]int64{9}, []int64{10}, []int64{11}, []int64{12})
	mustBeDeal(t, "with spades as trumps", canonical(t, diamonds, 3), clubs)
	mustBeDeal(t, "with diamonds as trumps", canonical(t, diamonds, 1), dealOf([]int64{22}, []int64{23}, []int64{24}, []int64{25}))
	mustBeDeal(t, "with clubs as trumps", canonical(t, diamonds, 0), dealOf([]int64{22}, []int64{23}, []int64{24}, []int64{25}))
	mustBeDeal(t, "without trumps", canonical(t, diamonds, 4), clubs)
	mustBeDeal(t, "without cards", canonical(t, dealOf(nil, nil, nil, nil), 4), dealOf(nil, nil, nil, nil))
	// North's suit becomes the lowest one, then East's.
	mixed := dealOf([]int64{51}, []int64{12}, []int64{25}, []int64{24})
	mustBeDeal(t, "one card in each of two suits", canonical(t, mixed, 4), dealOf([]int64{12}, []int64{25}, []int64{38}, []int64{37}))
}

// mustBeOneClass checks the canonical form of a deal, of the deals that allowed lists make from it
// and of a deal with other ranks.
func mustBeOneClass(t *testing.T, d impl.Deal, strain int64, numbers *numberStream) {
	t.Helper()
	form := canonical(t, d, strain)
	mustBeDeal(t, "the smallest form", form, smallestForm(d, strain))
	mustBeDeal(t, "the canonical form of a canonical form", canonical(t, form, strain), form)
	mustBeDeal(t, "the canonical form of a relative form", canonical(t, impl.RelativeDeal(d), strain), form)
	mustBeDeal(t, "the canonical form with other ranks", canonical(t, tableOf(d).lowered(numbers).deal(), strain), form)
	for _, to := range allowedLists(strain) {
		changed := tableOf(d).movedSuits(to).lowered(numbers).deal()
		mustBeDeal(t, "the canonical form with other suits", canonical(t, changed, strain), form)
		if !impl.SameUpToSuits(d, changed, strain) || !impl.SameUpToSuits(changed, d, strain) {
			t.Errorf("%v and %v are not the same for the strain %d", d, changed, strain)
		}
	}
	if !impl.SameUpToSuits(d, d, strain) || !impl.SameUpToSuits(d, form, strain) {
		t.Errorf("%v is not the same as itself for the strain %d", d, strain)
	}
}

func TestCanonicalFormsOfTheSameDeals(t *testing.T) {
	numbers := numberStream(17)
	for strain := range int64(5) {
		for _, d := range dealsOfEquivalentCards() {
			mustBeOneClass(t, d, strain, &numbers)
		}
	}
}

// All relative deals of one card a hand, and many of two and more cards in few suits: the kinds of
// the deals and their canonical forms correspond, one to one.
func TestCanonicalFormsOfAllDeals(t *testing.T) {
	deals := relativeDealsOfOneCard()
	if len(deals) != 840 {
		t.Fatalf("%d deals, want 840", len(deals))
	}
	numbers := numberStream(18)
	for range 1500 {
		size := int64(2 + numbers.below(2))
		start := int64(numbers.below(40))
		deals = append(deals, dealOfCards(cardRange(start, start+4*size-1), &numbers))
	}
	for strain := range int64(5) {
		formOfKind, kindOfForm := map[string]string{}, map[string]string{}
		for _, d := range deals {
			kind, form := kindOf(d, strain), impl.DealText(canonical(t, d, strain))
			if seen, ok := formOfKind[kind]; ok && seen != form {
				t.Errorf("%q and %q are the same for the strain %d", seen, form, strain)
			}
			if seen, ok := kindOfForm[form]; ok && seen != kind {
				t.Errorf("%q has the kinds %q and %q for the strain %d", form, seen, kind, strain)
			}
			formOfKind[kind], kindOfForm[form] = form, kind
		}
	}
}

func TestDealsThatAreTheSameUpToSuits(t *testing.T) {
	var deals []impl.Deal
	for i, d := range relativeDealsOfOneCard() {
		if i%17 == 0 {
			deals = append(deals, d)
		}
	}
	for strain := range int64(5) {
		for _, d := range deals {
			for _, e := range deals {
				if got, want := impl.SameUpToSuits(d, e, strain), kindOf(d, strain) == kindOf(e, strain); got != want {
					t.Errorf("SameUpToSuits(%v, %v, %d) = %v", d, e, strain, got)
				}
			}
		}
	}
}

// Deals that differ by one exchange, and by the number of cards.
func TestDealsThatAreNearlyTheSame(t *testing.T) {
	numbers := numberStream(19)
	for size := 0; size <= 13; size++ {
		d := numbers.someDeal(size)
		others := []impl.Deal{numbers.someDeal((size + 1) % 14), dealOf(nil, nil, nil, nil), impl.MirrorDeal(d)}
		cards := impl.CardsOfDeal(d)
		for range min(len(cards), 20) {
			a, b := cards[numbers.below(len(cards))], cards[numbers.below(len(cards))]
			others = append(others, tableOf(d).exchanged(a, b).deal())
		}
		for _, to := range suitOrders() {
			others = append(others, tableOf(d).movedSuits(to).deal())
		}
		for strain := range int64(5) {
			for _, e := range others {
				if got, want := impl.SameUpToSuits(d, e, strain), kindOf(d, strain) == kindOf(e, strain); got != want {
					t.Errorf("SameUpToSuits(%v, %v, %d) = %v", d, e, strain, got)
				}
			}
		}
	}
}

func TestCanonicalFormsOutsideTheRange(t *testing.T) {
	for _, d := range someDeals() {
		for _, strain := range append(outside(5), -1, 5) {
			got, code := impl.CanonicalDeal(d, strain)
			mustFail(t, "CanonicalDeal for no strain", got, code, impl.ErrRange)
			if impl.SameUpToSuits(d, d, strain) {
				t.Errorf("%v is the same as itself for the strain %d, which is none", d, strain)
			}
		}
	}
}

// A value that is no deal comes before a number that is no strain, and is the same as nothing.
func TestCanonicalFormsOfValuesThatAreNoDeals(t *testing.T) {
	for _, d := range notDeals() {
		for _, strain := range []int64{0, 3, 4, -1, 5, math.MinInt64, math.MaxInt64} {
			got, code := impl.CanonicalDeal(d, strain)
			mustFail(t, "CanonicalDeal of no deal", got, code, impl.ErrInvalid)
			for _, e := range []impl.Deal{smallDeal(), dealOf(nil, nil, nil, nil), {}} {
				if impl.SameUpToSuits(d, e, strain) || impl.SameUpToSuits(e, d, strain) || impl.SameUpToSuits(d, d, strain) {
					t.Errorf("%v and %v are the same for the strain %d", d, e, strain)
				}
			}
		}
	}
}

func TestMemoryOfRelativeForms(t *testing.T) {
	for _, d := range append(dealsForMemory(), dealsOfEquivalentCards()...) {
		checkDealMemory(t, "HolderLists", d, impl.HolderLists)
		checkDealMemory(t, "RelativeDeal", d, func(d impl.Deal) [][]int64 { return impl.RelativeDeal(d).Hands })
		for seat := int64(-1); seat <= 4; seat++ {
			checkDealMemory(t, "GroupsOf", d, func(d impl.Deal) [][]int64 {
				groups, _ := impl.GroupsOf(d, seat)
				return groups
			})
		}
		for _, card := range append(slices.Concat(d.Hands...), -1, 0, 51, 52) {
			checkDealMemory(t, "EquivalentCards", d, func(d impl.Deal) [][]int64 {
				return [][]int64{firstOf(impl.EquivalentCards(d, card))}
			})
		}
	}
}

// The lists of holders stand where the guard expects hands.
func TestMemoryOfHolders(t *testing.T) {
	var values [][][]int64
	for _, d := range someDeals() {
		values = append(values, tableOf(d).holders())
	}
	for i, lists := range notHolderLists() {
		if i < 40 || i%13 == 0 {
			values = append(values, lists)
		}
	}
	values = append(values, [][]int64{{0}, nil, nil, nil}, [][]int64{make([]int64, 13), {0}, {1}, {2}})
	for _, lists := range values {
		checkDealMemory(t, "DealOfHolders", impl.Deal{Hands: lists}, func(lists impl.Deal) [][]int64 {
			return handsOf(impl.DealOfHolders(lists.Hands))
		})
	}
}

func TestMemoryOfCanonicalForms(t *testing.T) {
	for strain := int64(-1); strain <= 5; strain++ {
		checkDealMemory(t, "SuitOrders", impl.Deal{}, func(impl.Deal) [][]int64 { return impl.SuitOrders(strain) })
		for _, d := range dealsForMemory() {
			checkDealMemory(t, "CanonicalDeal", d, func(d impl.Deal) [][]int64 { return handsOf(impl.CanonicalDeal(d, strain)) })
			form, _ := impl.CanonicalDeal(d, strain)
			checkDealMemory(t, "CanonicalDeal of a canonical form", form, func(d impl.Deal) [][]int64 {
				return handsOf(impl.CanonicalDeal(d, strain))
			})
			checkDealMemory(t, "SameUpToSuits", d, func(d impl.Deal) [][]int64 {
				impl.SameUpToSuits(d, smallDeal(), strain)
				impl.SameUpToSuits(smallDeal(), d, strain)
				return nil
			})
		}
	}
}
