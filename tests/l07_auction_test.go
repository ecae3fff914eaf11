package tests

import (
	"math"
	"slices"
	"strings"
	"testing"

	"loop.example/g00854/impl"
)

// The signatures of chapter 7.
var (
	_ func(impl.Auction) bool                         = impl.IsAuction
	_ func(impl.Auction) bool                         = impl.AuctionEnded
	_ func(impl.Auction) int64                        = impl.SeatToCall
	_ func(impl.Auction) []int64                      = impl.LegalCalls
	_ func(impl.Auction, int64) (impl.Auction, int64) = impl.AddCall
	_ func(impl.Auction) (impl.Contract, int64)       = impl.ContractOf
	_ func(impl.Contract) bool                        = impl.IsContract
	_ func(impl.Contract) string                      = impl.ContractText
	_ func(impl.Auction) string                       = impl.AuctionText
	_ func(string) (impl.Auction, bool)               = impl.ReadAuction
)

const seatNames = "NESW"

// madeCalls are calls that have been made. What the document says of them is found by looking back
// from the last one, again at each turn.
type madeCalls []int64

func isBidNumber(c int64) bool { return c >= 3 && c <= 37 }

// lastBid returns the place of the standing bid, or -1.
func (calls madeCalls) lastBid() int {
	place := len(calls) - 1
	for place >= 0 && !isBidNumber(calls[place]) {
		place--
	}
	return place
}

// state returns the state of the standing bid.
func (calls madeCalls) state() int64 {
	after := calls[calls.lastBid()+1:]
	switch {
	case slices.Contains(after, 2):
		return 2
	case slices.Contains(after, 1):
		return 1
	}
	return 0
}

func (calls madeCalls) ended() bool {
	if slices.Equal(calls, madeCalls{0, 0, 0, 0}) {
		return true
	}
	behindBid := len(calls) - 1 - calls.lastBid()
	return calls.lastBid() >= 0 && behindBid >= 3 && slices.Equal(calls[len(calls)-3:], madeCalls{0, 0, 0})
}

func (calls madeCalls) legal(c int64) bool {
	if calls.ended() {
		return false
	}
	bid := calls.lastBid()
	ownBid := bid >= 0 && (len(calls)-bid)%2 == 0
	othersBid := bid >= 0 && (len(calls)-bid)%2 == 1
	switch {
	case c == 0:
		return true
	case c == 1:
		return othersBid && calls.state() == 0
	case c == 2:
		return ownBid && calls.state() == 1
	case isBidNumber(c):
		return bid < 0 || c > calls[bid]
	}
	return false
}

func (calls madeCalls) allLegal() bool {
	for place, c := range calls {
		if !calls[:place].legal(c) {
			return false
		}
	}
	return true
}

func (calls madeCalls) legalOnes() []int64 {
	var list []int64
	for c := int64(0); c <= 37; c++ {
		if calls.legal(c) {
			list = append(list, c)
		}
	}
	return list
}

// contract looks for the declarer from the last call back, so that the first bid is found last.
func (calls madeCalls) contract(dealer int64) impl.Contract {
	last := calls.lastBid()
	if last < 0 {
		return impl.Contract{}
	}
	kind := callKinds()[calls[last]]
	declarer := 0
	for place := last; place >= 0; place -= 2 {
		if callKinds()[calls[place]].strain == kind.strain {
			declarer = place
		}
	}
	return impl.Contract{
		Level: kind.level, Strain: kind.strain, Doubled: calls.state(), Declarer: (dealer + int64(declarer)) % 4,
	}
}

func (calls madeCalls) text(dealer int64) string {
	words := []string{seatNames[dealer:dealer+1] + ":"}
	for _, c := range calls {
		words = append(words, callTexts[c])
	}
	return strings.Join(words, " ")
}

func isDealer(dealer int64) bool { return dealer >= 0 && dealer <= 3 }

func isAuction(a impl.Auction) bool { return isDealer(a.Dealer) && madeCalls(a.Calls).allLegal() }

// readAuction takes a text apart at each single space.
func readAuction(text string) (impl.Auction, bool) {
	words := strings.Split(text, " ")
	a := impl.Auction{Dealer: int64(slices.Index([]string{"N:", "E:", "S:", "W:"}, words[0]))}
	for _, word := range words[1:] {
		a.Calls = append(a.Calls, int64(slices.Index(callTexts, word)))
	}
	if !isAuction(a) {
		return impl.Auction{}, false
	}
	return a, true
}

func sameAuction(a, b impl.Auction) bool {
	return a.Dealer == b.Dealer && slices.Equal(a.Calls, b.Calls)
}

func isZeroAuction(a impl.Auction) bool { return a.Dealer == 0 && len(a.Calls) == 0 }

// callsOf reads calls that are written with spaces between them, without the program.
func callsOf(t *testing.T, text string) []int64 {
	t.Helper()
	var calls []int64
	for _, word := range strings.Fields(text) {
		c := slices.Index(callTexts, word)
		if c < 0 {
			t.Fatalf("the test has no call %q", word)
		}
		calls = append(calls, int64(c))
	}
	return calls
}

// mustHaveState compares all that the program says of an auction, but for its additions and texts,
// with the definitions.
func mustHaveState(t *testing.T, a impl.Auction) {
	t.Helper()
	calls := madeCalls(a.Calls)
	is := isAuction(a)
	ended := is && calls.ended()
	turn, legal := int64(-1), []int64(nil)
	if is && !ended {
		turn, legal = (a.Dealer+int64(len(calls)))%4, calls.legalOnes()
	}
	if got := impl.IsAuction(a); got != is {
		t.Fatalf("IsAuction(%v) = %v, want %v", a, got, is)
	}
	if got := impl.AuctionEnded(a); got != ended {
		t.Fatalf("AuctionEnded(%v) = %v, want %v", a, got, ended)
	}
	if got := impl.SeatToCall(a); got != turn {
		t.Fatalf("SeatToCall(%v) = %d, want %d", a, got, turn)
	}
	if got := impl.LegalCalls(a); !slices.Equal(got, legal) {
		t.Fatalf("LegalCalls(%v) = %v, want %v", a, got, legal)
	}
	mustHaveContract(t, a, is, ended)
}

func mustHaveContract(t *testing.T, a impl.Auction, is, ended bool) {
	t.Helper()
	var want impl.Contract
	var wantCode int64
	switch {
	case !is:
		wantCode = impl.ErrInvalid
	case !ended:
		wantCode = impl.ErrState
	default:
		want = madeCalls(a.Calls).contract(a.Dealer)
	}
	got, code := impl.ContractOf(a)
	if got != want || code != wantCode {
		t.Fatalf("ContractOf(%v) = %v, %d, want %v, %d", a, got, code, want, wantCode)
	}
	if !impl.IsContract(got) {
		t.Fatalf("the contract %v of %v is not valid", got, a)
	}
}

// mustAdd compares an addition with the definitions.
func mustAdd(t *testing.T, a impl.Auction, c int64) {
	t.Helper()
	calls := madeCalls(a.Calls)
	var want impl.Auction
	var wantCode int64
	switch {
	case !isAuction(a):
		wantCode = impl.ErrInvalid
	case calls.ended():
		wantCode = impl.ErrState
	case !calls.legal(c):
		wantCode = impl.ErrRange
	default:
		want = impl.Auction{Dealer: a.Dealer, Calls: slices.Concat(calls, madeCalls{c})}
	}
	got, code := impl.AddCall(a, c)
	if !sameAuction(got, want) || code != wantCode {
		t.Fatalf("AddCall(%v, %d) = %v, %d, want %v, %d", a, c, got, code, want, wantCode)
	}
}

// mustHaveText compares the text of an auction with the definition, and reads it again.
func mustHaveText(t *testing.T, a impl.Auction) {
	t.Helper()
	if !isAuction(a) {
		if text := impl.AuctionText(a); text != "" {
			t.Fatalf("AuctionText(%v) = %q, want the empty string", a, text)
		}
		return
	}
	want := madeCalls(a.Calls).text(a.Dealer)
	text := impl.AuctionText(a)
	if text != want {
		t.Fatalf("AuctionText(%v) = %q, want %q", a, text, want)
	}
	if again, ok := impl.ReadAuction(text); !ok || !sameAuction(again, a) {
		t.Fatalf("ReadAuction(%q) = %v, %v, want %v", text, again, ok, a)
	}
}

func mustReadAuction(t *testing.T, text string) {
	t.Helper()
	want, wantOK := readAuction(text)
	got, ok := impl.ReadAuction(text)
	if ok != wantOK || !sameAuction(got, want) {
		t.Fatalf("ReadAuction(%q) = %v, %v, want %v, %v", text, got, ok, want, wantOK)
	}
}

// someAuction makes legal calls, of which most are passes, doubles or bids not far above the last
// one, until the auction ends or has a number of calls.
func (n *numberStream) someAuction(dealer int64, most int) impl.Auction {
	var calls madeCalls
	step := 1 + n.below(12)
	for len(calls) < most && !calls.ended() {
		legal := calls.legalOnes()
		c := legal[n.below(min(len(legal), step+2))]
		if c == 0 {
			c = legal[n.below(min(len(legal), 3))]
		}
		calls = append(calls, c)
	}
	return impl.Auction{Dealer: dealer, Calls: calls}
}

// manyAuctions lists auctions from every dealer: without a call, under way and ended.
func manyAuctions() []impl.Auction {
	var numbers numberStream = 7
	var list []impl.Auction
	for dealer := range int64(4) {
		list = append(list, impl.Auction{Dealer: dealer})
		for most := 1; most <= 40; most++ {
			list = append(list, numbers.someAuction(dealer, most))
		}
		for range 60 {
			list = append(list, numbers.someAuction(dealer, 1000))
		}
	}
	return list
}

// longestCalls makes every bid, doubled and redoubled, with as many passes as there can be.
func longestCalls() []int64 {
	calls := []int64{0, 0, 0}
	for bid := int64(3); bid <= 37; bid++ {
		calls = append(calls, bid, 0, 0, 1, 0, 0, 2, 0, 0)
	}
	return append(calls, 0)
}

// writtenAuctions are auctions whose validity and contract are written out: "-" stands for an
// auction that is not ended and "!" for one that is not valid.
var writtenAuctions = []struct {
	dealer   int64
	calls    string
	contract string
}{
	{0, "", "-"}, {3, "", "-"}, {-1, "", "!"}, {4, "", "!"},
	{-1, "P", "!"}, {4, "P P P P", "!"},
	{0, "P", "-"}, {0, "P P", "-"}, {0, "P P P", "-"}, {0, "P P P P", "pass"}, {0, "P P P P P", "!"},
	{2, "P P P P", "pass"}, {0, "P P P P 1C", "!"}, {0, "P P P 1C", "-"}, {0, "P P P 1C P P", "-"},
	{0, "P P P 1C P P P", "1CW"}, {0, "P P P 1C P P P P", "!"}, {0, "P P P 1C P P P 1D", "!"},
	{0, "1C P P", "-"}, {0, "1C P P P", "1CN"}, {0, "1C P P P P", "!"}, {0, "1C P P P X", "!"},
	{0, "1C P P 1D P P P", "1DW"}, {1, "1C P P 1D P P P", "1DN"},
	{0, "X", "!"}, {0, "XX", "!"}, {0, "P X", "!"}, {0, "P XX", "!"}, {0, "P P X", "!"},
	{0, "1C X", "-"}, {0, "1C X P P P", "1CXN"}, {0, "1C P X", "!"}, {0, "1C P P X", "-"},
	{0, "1C P P X P P P", "1CXN"}, {0, "1C P P X P P", "-"}, {0, "1C X X", "!"}, {0, "1C X P X", "!"}, {0, "1C X P P X", "!"},
	{0, "1C XX", "!"}, {0, "1C P XX", "!"}, {0, "1C P P XX", "!"}, {0, "1C X XX", "-"}, {0, "1C X XX P P P", "1CXXN"},
	{0, "1C X P XX", "!"}, {0, "1C X P P XX", "-"}, {0, "1C X P P XX P P P", "1CXXN"}, {0, "1C X P P XX P P", "-"},
	{0, "1C X XX XX", "!"}, {0, "1C X XX X", "!"}, {0, "1C X XX P X", "!"}, {0, "1C X XX P XX", "!"}, {0, "1C X XX P P X", "!"},
	{0, "1C 1C", "!"}, {0, "1D 1C", "!"}, {0, "1D P 1C", "!"}, {0, "1D P 1D", "!"}, {0, "1D X 1D", "!"}, {0, "1D X 1H", "-"},
	{0, "1H P 2H P P P", "2HN"}, {1, "P 1S 2C 4S X P P P", "4SXS"}, {0, "1H 1S 2S P 4H P P P", "4HN"},
	{0, "P 1H P 2H P 4H P P P", "4HE"}, {0, "1S 2S P 3S P P P", "3SE"}, {0, "1S 2S 3S P P P", "3SN"},
	{0, "1N P 2C P 2H P 3N P P P", "3NN"}, {0, "1C P 1N P 3N P P P", "3NS"}, {0, "1C 1N 2N 3N P P P", "3NE"},
	{0, "1C 1D 1H 1S 2C 2D 2H 2S P P P", "2SW"}, {0, "1C 1S P P 2S P P P", "2SN"}, {3, "1C P P 1S P P 2S P P P", "2SE"},
	{0, "1C X 1D P P P", "1DS"}, {0, "1C X XX 1D P P P", "1DW"}, {0, "1C X XX 1D X P P P", "1DXW"},
	{0, "1C X XX 1D X XX P P P", "1DXXW"}, {0, "1C X XX 1D XX", "!"}, {0, "1C X 1D XX", "!"}, {0, "1C X 1D X P P P", "1DXS"},
	{0, "7N P P P", "7NN"}, {0, "7N X XX P P P", "7NXXN"}, {0, "7N 7N", "!"}, {0, "7S 7N P P P", "7NE"}, {0, "7N P 7C", "!"},
}

func TestConstantOfAuctions(t *testing.T) {
	if impl.MaxCalls != 319 {
		t.Fatalf("MaxCalls = %d, want 319", impl.MaxCalls)
	}
}

func TestWrittenAuctions(t *testing.T) {
	for _, written := range writtenAuctions {
		a := impl.Auction{Dealer: written.dealer, Calls: callsOf(t, written.calls)}
		contract, code := impl.ContractOf(a)
		text := impl.ContractText(contract)
		switch {
		case code == impl.ErrInvalid:
			text = "!"
		case code == impl.ErrState:
			text = "-"
		}
		if text != written.contract {
			t.Errorf("the auction %d: %s has the contract %q, want %q", written.dealer, written.calls, text, written.contract)
		}
		if is := written.contract != "!"; impl.IsAuction(a) != is {
			t.Errorf("IsAuction of %d: %s should be %v", written.dealer, written.calls, is)
		}
		mustHaveState(t, a)
		mustHaveText(t, a)
	}
}

func TestExamplesOfAuctions(t *testing.T) {
	heart := impl.Auction{Calls: []int64{5, 0, 10, 0, 0, 0}}
	if c, code := impl.ContractOf(heart); c != (impl.Contract{Level: 2, Strain: 2}) || code != impl.ErrNone {
		t.Errorf("1H and 2H lead to %v, %d", c, code)
	}
	if legal := impl.LegalCalls(impl.Auction{}); len(legal) != 36 || legal[0] != 0 || legal[1] != 3 || legal[35] != 37 {
		t.Errorf("legal calls in the first turn: %v", legal)
	}
	if text := impl.ContractText(impl.Contract{Level: 4, Strain: 3, Doubled: 1, Declarer: 2}); text != "4SXS" {
		t.Errorf("the text of a contract is %q", text)
	}
	if text := impl.AuctionText(impl.Auction{Calls: []int64{3, 0}}); text != "N: 1C P" {
		t.Errorf("the text of an auction is %q", text)
	}
	if !impl.AuctionEnded(impl.Auction{Calls: []int64{0, 0, 0, 0}}) || impl.AuctionEnded(impl.Auction{Calls: []int64{0, 0, 0}}) {
		t.Error("four passes end an auction, three do not")
	}
}

// mustFollowDefinitions checks all lists that begin with calls and go on with at most a number of
// others, whether they are legal or not.
func mustFollowDefinitions(t *testing.T, dealer int64, calls, others []int64, most int) {
	t.Helper()
	a := impl.Auction{Dealer: dealer, Calls: calls}
	mustHaveState(t, a)
	if most == 0 {
		return
	}
	for _, c := range others {
		mustAdd(t, a, c)
		mustFollowDefinitions(t, dealer, append(slices.Clone(calls), c), others, most-1)
	}
}

func TestAllShortListsOfSomeCalls(t *testing.T) {
	mustFollowDefinitions(t, 0, nil, []int64{0, 1, 2, 3, 4, 37}, 6)
	for dealer := int64(-1); dealer <= 4; dealer++ {
		mustFollowDefinitions(t, dealer, nil, []int64{0, 1, 2, 5, 10, 38}, 4)
	}
}

func TestAllListsOfTwoCalls(t *testing.T) {
	mustFollowDefinitions(t, 3, nil, cardRange(-2, 40), 2)
	mustFollowDefinitions(t, 1, []int64{16, 0, 0}, cardRange(-2, 40), 2)
}

func TestManyAuctions(t *testing.T) {
	ended, passedOut := 0, 0
	for _, a := range manyAuctions() {
		if !impl.IsAuction(a) {
			t.Fatalf("%v is made of legal calls", a)
		}
		for length := range len(a.Calls) + 1 {
			mustHaveState(t, impl.Auction{Dealer: a.Dealer, Calls: a.Calls[:length]})
		}
		mustHaveText(t, a)
		if impl.AuctionEnded(a) {
			ended++
		}
		if slices.Max(append(a.Calls, 0)) == 0 {
			passedOut++
		}
	}
	if ended < 250 || passedOut > 60 {
		t.Fatalf("the test made %d auctions that ended, and %d of passes only", ended, passedOut)
	}
}

func TestDealersThatAreNoSeats(t *testing.T) {
	for _, dealer := range outside(4) {
		for _, calls := range [][]int64{nil, {0}, {3, 0, 0}, {0, 0, 0, 0}, {3, 0, 0, 0}, {1}, {38}} {
			a := impl.Auction{Dealer: dealer, Calls: calls}
			mustHaveState(t, a)
			mustHaveText(t, a)
			for _, c := range []int64{0, 3, 38, -1} {
				mustAdd(t, a, c)
			}
		}
	}
}

func TestNumbersThatAreNoCallsInAuctions(t *testing.T) {
	for _, number := range outside(38) {
		for _, before := range [][]int64{nil, {0}, {3}, {3, 1}, {3, 1, 2, 0, 0}, {37}} {
			mustAdd(t, impl.Auction{Dealer: 1, Calls: before}, number)
			with := append(slices.Clone(before), number)
			for _, calls := range [][]int64{with, append(with, 0), append(with, 0, 0, 0)} {
				a := impl.Auction{Dealer: 1, Calls: calls}
				mustHaveState(t, a)
				mustHaveText(t, a)
			}
		}
	}
}

func TestLegalCallsIncrease(t *testing.T) {
	for _, a := range manyAuctions() {
		legal := impl.LegalCalls(a)
		for i, c := range legal {
			if i > 0 && c <= legal[i-1] {
				t.Fatalf("LegalCalls(%v) = %v", a, legal)
			}
		}
		if hasTurn := impl.SeatToCall(a) != -1; hasTurn != (len(legal) > 0) {
			t.Fatalf("LegalCalls(%v) = %v, and the turn is %v", a, legal, hasTurn)
		}
	}
}

func TestExactlyTheLegalCallsCanBeAdded(t *testing.T) {
	for _, a := range manyAuctions() {
		legal := impl.LegalCalls(a)
		for _, c := range slices.Concat(cardRange(-3, 45), outside(38)) {
			mustAdd(t, a, c)
			longer, code := impl.AddCall(a, c)
			if is := slices.Contains(legal, c); is != (code == impl.ErrNone) {
				t.Fatalf("AddCall(%v, %d) returns the code %d, and the legal calls are %v", a, c, code, legal)
			}
			if code == impl.ErrNone && !impl.IsAuction(longer) {
				t.Fatalf("AddCall(%v, %d) returns %v, which is not valid", a, c, longer)
			}
		}
	}
}

func TestOrderOfErrorsOfAddCall(t *testing.T) {
	for _, c := range []struct {
		dealer int64
		calls  []int64
		call   int64
		want   int64
	}{
		{-1, []int64{0, 0, 0, 0}, 0, impl.ErrInvalid},
		{4, nil, 99, impl.ErrInvalid},
		{0, []int64{0, 0, 0, 0, 0}, 0, impl.ErrInvalid},
		{0, []int64{3, 0, 0, 0, 0, 0, 0}, 1, impl.ErrInvalid},
		{0, []int64{1}, -1, impl.ErrInvalid},
		{0, []int64{1, 0, 0, 0}, 0, impl.ErrInvalid},
		{0, []int64{0, 0, 0, 0}, 0, impl.ErrState},
		{0, []int64{0, 0, 0, 0}, 3, impl.ErrState},
		{0, []int64{0, 0, 0, 0}, 99, impl.ErrState},
		{3, []int64{3, 1, 2, 0, 0, 0}, 1, impl.ErrState},
		{3, []int64{3, 1, 2, 0, 0, 0}, math.MinInt64, impl.ErrState},
		{0, nil, 1, impl.ErrRange},
		{0, nil, 2, impl.ErrRange},
		{0, nil, 38, impl.ErrRange},
		{0, []int64{37}, 37, impl.ErrRange},
		{0, []int64{3, 0}, 1, impl.ErrRange},
		{0, []int64{3, 1}, 1, impl.ErrRange},
		{0, []int64{3, 1, 0}, 2, impl.ErrRange},
		{0, []int64{3, 1}, 2, impl.ErrNone},
	} {
		a, code := impl.AddCall(impl.Auction{Dealer: c.dealer, Calls: c.calls}, c.call)
		if code != c.want {
			t.Errorf("AddCall({%d, %v}, %d) returns the code %d, want %d", c.dealer, c.calls, c.call, code, c.want)
		}
		if code != impl.ErrNone && !isZeroAuction(a) {
			t.Errorf("AddCall({%d, %v}, %d) returns %v beside the code %d", c.dealer, c.calls, c.call, a, code)
		}
	}
}

func TestOrderOfErrorsOfContractOf(t *testing.T) {
	for _, a := range []impl.Auction{
		{Dealer: -1}, {Dealer: 4, Calls: []int64{0, 0, 0, 0}}, {Calls: []int64{0, 0, 0, 0, 0}},
		{Calls: []int64{3, 0, 0, 0, 0, 0, 0}}, {Calls: []int64{1}}, {Calls: []int64{1, 0, 0, 0}}, {Calls: []int64{38, 0, 0, 0}},
	} {
		if c, code := impl.ContractOf(a); c != (impl.Contract{}) || code != impl.ErrInvalid {
			t.Errorf("ContractOf(%v) = %v, %d, want ErrInvalid", a, c, code)
		}
	}
	for _, calls := range [][]int64{nil, {0, 0, 0}, {3, 0, 0}, {37}, {3, 1, 2, 0, 0}} {
		if c, code := impl.ContractOf(impl.Auction{Calls: calls}); c != (impl.Contract{}) || code != impl.ErrState {
			t.Errorf("ContractOf({0, %v}) = %v, %d, want ErrState", calls, c, code)
		}
	}
}

func TestMemoryOfAuctions(t *testing.T) {
	for _, a := range manyAuctions()[:60] {
		checkMemory(t, "LegalCalls", a.Calls, func(calls []int64) []int64 {
			return impl.LegalCalls(impl.Auction{Dealer: a.Dealer, Calls: calls})
		})
		for _, c := range []int64{0, 1, 37, 38} {
			checkMemory(t, "AddCall", a.Calls, func(calls []int64) []int64 {
				longer, _ := impl.AddCall(impl.Auction{Dealer: a.Dealer, Calls: calls}, c)
				return longer.Calls
			})
		}
		g := guard(a.Calls)
		held := impl.Auction{Dealer: a.Dealer, Calls: g.list()}
		impl.IsAuction(held)
		impl.AuctionEnded(held)
		impl.SeatToCall(held)
		impl.ContractOf(held)
		impl.AuctionText(held)
		g.mustBeUnchanged(t, "the auction")
	}
}

func TestMemoryOfReadAuctions(t *testing.T) {
	for _, a := range manyAuctions()[:60] {
		text := impl.AuctionText(a)
		first, _ := impl.ReadAuction(text)
		second, _ := impl.ReadAuction(text)
		overwrite(second.Calls)
		if third, ok := impl.ReadAuction(text); !ok || !sameAuction(first, a) || !sameAuction(third, a) {
			t.Fatalf("ReadAuction(%q) = %v and %v after a result was overwritten", text, first, third)
		}
	}
}

// Auctions that share their first calls must not grow into each other.
func TestAuctionsGrowApart(t *testing.T) {
	a := impl.Auction{Dealer: 2}
	for _, c := range []int64{3, 1, 2, 0, 0, 4, 0, 9} {
		longer, _ := impl.AddCall(a, c)
		before := slices.Clone(longer.Calls)
		for other := int64(0); other <= 37; other++ {
			impl.AddCall(a, other)
			impl.AddCall(longer, other)
		}
		if !slices.Equal(longer.Calls, before) {
			t.Fatalf("%v became %v when other calls were added", before, longer.Calls)
		}
		a = longer
	}
}

func TestOtherDealers(t *testing.T) {
	compared := 0
	for _, a := range manyAuctions() {
		contract, code := impl.ContractOf(a)
		if code != impl.ErrNone || contract == (impl.Contract{}) {
			continue
		}
		compared++
		for turn := int64(1); turn <= 3; turn++ {
			turned := contract
			turned.Declarer = (contract.Declarer + turn) % 4
			other := impl.Auction{Dealer: (a.Dealer + turn) % 4, Calls: a.Calls}
			if got, code := impl.ContractOf(other); got != turned || code != impl.ErrNone {
				t.Fatalf("ContractOf(%v) = %v, %d, want %v", other, got, code, turned)
			}
		}
	}
	if compared < 200 {
		t.Fatalf("only %d auctions with a contract", compared)
	}
}

func TestLongestAuction(t *testing.T) {
	calls := longestCalls()
	if len(calls) != 319 {
		t.Fatalf("the test made %d calls", len(calls))
	}
	for dealer := range int64(4) {
		a := impl.Auction{Dealer: dealer}
		for place, c := range calls {
			if impl.AuctionEnded(a) || impl.SeatToCall(a) != (dealer+int64(place))%4 {
				t.Fatalf("the auction %v should go on", a)
			}
			longer, code := impl.AddCall(a, c)
			if code != impl.ErrNone {
				t.Fatalf("AddCall(%v, %d) returns the code %d", a, c, code)
			}
			a = longer
		}
		if !impl.AuctionEnded(a) {
			t.Fatal("the longest auction has not ended")
		}
		want := impl.Contract{Level: 7, Strain: 4, Doubled: 2, Declarer: (dealer + 3 + 34*9) % 4}
		for place, c := range calls {
			// The other side bids each strain, too, but only this side is asked.
			if isBidNumber(c) && callKinds()[c].strain == 4 && (place-(3+34*9))%2 == 0 {
				want.Declarer = (dealer + int64(place)) % 4
				break
			}
		}
		if contract, code := impl.ContractOf(a); contract != want || code != impl.ErrNone {
			t.Fatalf("the longest auction leads to %v, %d, want %v", contract, code, want)
		}
		mustHaveText(t, a)
		mustHaveState(t, a)
		mustAdd(t, a, 0)
		mustHaveState(t, impl.Auction{Dealer: dealer, Calls: append(slices.Clone(calls), 0)})
		mustHaveState(t, impl.Auction{Dealer: dealer, Calls: slices.Repeat(calls, 2)})
	}
}

// situation is all that the calls to come depend on.
type situation struct {
	bid, state int64
	passes     int
	own        bool
}

func situationOf(calls madeCalls) situation {
	bid := calls.lastBid()
	if bid < 0 {
		return situation{passes: len(calls)}
	}
	passes := 0
	for passes < len(calls) && calls[len(calls)-1-passes] == 0 {
		passes++
	}
	return situation{bid: calls[bid], state: calls.state(), passes: passes, own: (len(calls)-bid)%2 == 0}
}

// mostCalls returns the greatest number of calls with which the program lets an auction go on.
func mostCalls(t *testing.T, a impl.Auction, known map[situation]int) int {
	now := situationOf(a.Calls)
	if most, is := known[now]; is {
		return most
	}
	most := 0
	// A situation that comes again would make the auction endless.
	known[now] = 1 << 20
	for _, c := range impl.LegalCalls(a) {
		longer, code := impl.AddCall(a, c)
		if code != impl.ErrNone {
			t.Fatalf("AddCall(%v, %d) returns the code %d", a, c, code)
		}
		most = max(most, 1+mostCalls(t, longer, known))
	}
	known[now] = most
	return most
}

func TestEveryAuctionEnds(t *testing.T) {
	known := map[situation]int{}
	if most := mostCalls(t, impl.Auction{Dealer: 1}, known); most != impl.MaxCalls {
		t.Errorf("an auction has at most %d calls, want %d", most, impl.MaxCalls)
	}
	// Each bid has states 0 to 2 with passes 0 to 3, from which the side to call follows.
	if len(known) < 35*3*4 {
		t.Errorf("the test found %d situations only", len(known))
	}
	for _, a := range manyAuctions() {
		for !impl.AuctionEnded(a) {
			if len(a.Calls) > impl.MaxCalls {
				t.Fatalf("%v does not end", a)
			}
			legal := impl.LegalCalls(a)
			a, _ = impl.AddCall(a, legal[min(1, len(legal)-1)])
		}
		if _, code := impl.ContractOf(a); code != impl.ErrNone {
			t.Fatalf("%v has ended, and ContractOf returns the code %d", a, code)
		}
	}
}

func isContract(c impl.Contract) bool {
	inRange := c.Level >= 1 && c.Level <= 7 && c.Strain >= 0 && c.Strain <= 4 &&
		c.Doubled >= 0 && c.Doubled <= 2 && c.Declarer >= 0 && c.Declarer <= 3
	return inRange || c.Level == 0 && c.Strain == 0 && c.Doubled == 0 && c.Declarer == 0
}

func mustBeContract(t *testing.T, c impl.Contract) {
	t.Helper()
	if want := isContract(c); impl.IsContract(c) != want {
		t.Errorf("IsContract(%v) should be %v", c, want)
	}
	want := ""
	switch {
	case c == (impl.Contract{}):
		want = "pass"
	case isContract(c):
		bid := callTexts[3+5*(c.Level-1)+c.Strain]
		want = bid + []string{"", "X", "XX"}[c.Doubled] + string(seatNames[c.Declarer])
	}
	if text := impl.ContractText(c); text != want {
		t.Errorf("ContractText(%v) = %q, want %q", c, text, want)
	}
}

func TestAllContracts(t *testing.T) {
	ends := []int64{math.MinInt64, math.MaxInt64}
	texts := map[string]bool{}
	for _, level := range append(cardRange(-2, 9), ends...) {
		for _, strain := range append(cardRange(-2, 6), ends...) {
			for _, doubled := range append(cardRange(-2, 4), ends...) {
				for _, declarer := range append(cardRange(-2, 5), ends...) {
					c := impl.Contract{Level: level, Strain: strain, Doubled: doubled, Declarer: declarer}
					mustBeContract(t, c)
					texts[impl.ContractText(c)] = true
				}
			}
		}
	}
	// The empty text and that of the zero value come in addition.
	if len(texts) != 7*5*3*4+2 {
		t.Errorf("%d texts of contracts", len(texts))
	}
}

func TestFieldsFarOutsideTheirRanges(t *testing.T) {
	for _, number := range slices.Concat(outside(8), outside(5), outside(4), outside(3)) {
		for place := range 4 {
			fields := []int64{3, 2, 1, 2}
			fields[place] = number
			mustBeContract(t, impl.Contract{Level: fields[0], Strain: fields[1], Doubled: fields[2], Declarer: fields[3]})
			fields = make([]int64, 4)
			fields[place] = number
			mustBeContract(t, impl.Contract{Level: fields[0], Strain: fields[1], Doubled: fields[2], Declarer: fields[3]})
		}
	}
}

// textsToChange are long enough to have every kind of neighbour of a byte.
func textsToChange() []string {
	return []string{
		"N:", "W:", "S: P", "E: P P P P", "N: 1C P", "E: 1N X XX P P P", "S: 1H P 2H P 4H P P P",
		"W: P P 7N X XX P P P", "N: P 1S X P P XX 2C P P P", "E: 6C 6D 6N X P P XX P",
	}
}

func TestTextsWithAByteChanged(t *testing.T) {
	for _, text := range textsToChange() {
		for changed := range textsWithAByteChanged(text) {
			mustReadAuction(t, changed)
		}
	}
}

func TestTextsWithAByteMoreOrLess(t *testing.T) {
	for _, text := range textsToChange() {
		for changed := range textsWithAByteMoreOrLess(text) {
			mustReadAuction(t, changed)
		}
	}
}

func TestTextsThatAreNoAuctions(t *testing.T) {
	for _, text := range []string{
		"", " ", ":", ": P", "N", "N P", "N;", "N; P", "n:", "n: P", "Q:", "Q: P", "NE:", "NE: P", "NESW:", "ES: P", "N::", "N:: P", "N:N:",
		"0:", "0: P", "N: N: P", "N:P", "N:1C", "N : P", " N: P", "N: P ", "N:  P", "N: P  P", "N: P\n", "\nN: P", "N:\tP", "N: P\tP",
		"N: P\u00a0P", "N:\u00a0P", "N: P\u2003P", "N: P\x00", "N: p", "N: x", "N: 1c", "N: 1C p", "N: 1C x", "N: 1C Xx", "N: Pass", "N: pass",
		"N: 1NT", "N: 0C", "N: 8C", "N: 1", "N: C", "N: 1C,P", "N: 1CP", "N: PP", "N: XX X", "N: X", "N: XX", "N: 1C 1C", "N: 1D 1C",
		"N: 1C P X", "N: 1C XX", "N: 1C X P XX", "N: 1C X X", "N: 1C X XX XX", "N: P P P P P", "N: 1C P P P P", "N: 1C P P P 1D",
		"N: P P P P 1C", "N: 7N 7N", "N: 0 3", "N: 1C P;", "N: 1C -", "N: 1C ?", "pass", "P", "1C P", "N:" + strings.Repeat(" P", 5000),
		"N:" + strings.Repeat(" ", 5000), strings.Repeat("N:", 5000), impl.AuctionText(impl.Auction{Calls: longestCalls()}) + " P",
	} {
		if a, ok := impl.ReadAuction(text); ok || !isZeroAuction(a) {
			t.Errorf("ReadAuction(%q) = %v, %v, want the zero value and false", text, a, ok)
		}
		mustReadAuction(t, text)
	}
}

func TestSmallLettersInAuctions(t *testing.T) {
	for _, a := range manyAuctions() {
		text := impl.AuctionText(a)
		if got, ok := impl.ReadAuction(strings.ToLower(text)); ok || !isZeroAuction(got) {
			t.Fatalf("ReadAuction(%q) = %v, %v", strings.ToLower(text), got, ok)
		}
	}
}
