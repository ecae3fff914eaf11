package tests

import (
	"fmt"
	"math"
	"slices"
	"strings"
	"testing"

	"loop.example/g00854/impl"
)

// The signatures of chapter 9.
var (
	_                                                         = impl.Revoke{Trick: int64(0), Seat: int64(0), Card: int64(0)}
	_                                                         = impl.Claim{Seat: int64(0), Tricks: int64(0)}
	_ func(impl.Deal, impl.Play) bool                         = impl.IsLoosePlay
	_ func(impl.Deal, impl.Play) []impl.Revoke                = impl.RevokesOf
	_ func(impl.Deal, impl.Play, int64) bool                  = impl.IsEstablished
	_ func(impl.Deal, impl.Play) ([]int64, int64)             = impl.TransfersOf
	_ func(impl.Deal, impl.Play) ([]int64, int64)             = impl.AdjustedTricks
	_ func(impl.Deal, impl.Play, impl.Claim) bool             = impl.IsClaim
	_ func(impl.Deal, impl.Play, impl.Claim) ([]int64, int64) = impl.ClaimTotals
	_ func(impl.Deal, impl.Play, int64) (int64, int64)        = impl.LeastTricks
	_ func(impl.Deal, impl.Play, impl.Claim) (bool, int64)    = impl.ClaimHolds
)

func TestConstantOfClaims(t *testing.T) {
	if impl.MaxClaim != 3 {
		t.Fatalf("MaxClaim = %d", impl.MaxClaim)
	}
}

// isLoose requires a deal.
func isLoose(d impl.Deal, p impl.Play) bool {
	if !isPlain(p) {
		return false
	}
	r := recordOf(d, p)
	for place, card := range p.Cards {
		if int64(r.table[card]) != r.seat(place) {
			return false
		}
	}
	return true
}

// isRevoke looks for a card of the suit that was led in all 52 cards, and when it was played. It
// requires a loose play.
func (r record) isRevoke(place int) bool {
	first := place - place%4
	led := r.play.Cards[first] / 13
	if place == first || r.play.Cards[place]/13 == led {
		return false
	}
	for card, holder := range r.table {
		if int64(card/13) == led && int64(holder) == r.seat(place) {
			if played := slices.Index(r.play.Cards, int64(card)); played == -1 || played > place {
				return true
			}
		}
	}
	return false
}

func (r record) revokes() []impl.Revoke {
	var list []impl.Revoke
	for place, card := range r.play.Cards {
		if r.isRevoke(place) {
			list = append(list, impl.Revoke{Trick: int64(place / 4), Seat: r.seat(place), Card: card})
		}
	}
	return list
}

// isEstablished compares the trick with that of the last card, so that it needs no number of a card
// that was not played.
func (r record) isEstablished(trick int64) bool {
	last := int64(-1)
	has := false
	for place := range r.play.Cards {
		last = int64(place / 4)
		has = has || r.isRevoke(place) && last == trick
	}
	return has && (last > trick || r.finished())
}

// wonFrom counts the tricks of a side, from one on.
func (r record) wonFrom(trick int64, side int64) int64 {
	won := int64(0)
	for _, winner := range r.leaders[trick+1:] {
		if winner%2 == side {
			won++
		}
	}
	return won
}

// transfer returns the number of tricks that pass from a side. It requires a finished play.
func (r record) transfer(side int64) int64 {
	for _, revoke := range r.revokes() {
		if revoke.Seat%2 != side {
			continue
		}
		won := r.wonFrom(revoke.Trick, side)
		if r.leaders[revoke.Trick+1] == revoke.Seat {
			return min(2, won)
		}
		return min(1, won)
	}
	return 0
}

func (r record) transfers() []int64 { return []int64{r.transfer(0), r.transfer(1)} }

func (r record) adjusted() []int64 {
	won, passed := wonTricks(r.play), r.transfers()
	return []int64{won[0] - passed[0] + passed[1], won[1] - passed[1] + passed[0]}
}

// remainingTricks requires a play of the deal without an unfinished trick.
func remainingTricks(d impl.Deal, p impl.Play) int64 {
	return int64(len(d.Hands[0]) - len(p.Cards)/4)
}

// allowsClaims requires a deal.
func allowsClaims(d impl.Deal, p impl.Play) bool { return isPlay(d, p) && len(p.Cards)%4 == 0 }

func isClaim(d impl.Deal, p impl.Play, c impl.Claim) bool {
	return allowsClaims(d, p) && c.Seat >= 0 && c.Seat <= 3 && c.Tricks >= 0 && c.Tricks <= remainingTricks(d, p)
}

// claimTotals requires a claim.
func claimTotals(d impl.Deal, p impl.Play, c impl.Claim) []int64 {
	won := wonTricks(p)
	all := int64(len(d.Hands[0]))
	if c.Seat == 0 || c.Seat == 2 {
		return []int64{won[0] + c.Tricks, all - won[0] - c.Tricks}
	}
	return []int64{all - won[1] - c.Tricks, won[1] + c.Tricks}
}

// tricksOfCards lists all tricks that four hands can play from a leader on.
func tricksOfCards(hands [][]int64, leader int64) [][]int64 {
	tricks := [][]int64{nil}
	for place := range int64(4) {
		hand := hands[(leader+place)%4]
		var longer [][]int64
		for _, trick := range tricks {
			choice := hand
			if place > 0 {
				if following := ofSuit(hand, trick[0]/13); len(following) > 0 {
					choice = following
				}
			}
			for _, card := range choice {
				longer = append(longer, append(slices.Clone(trick), card))
			}
		}
		tricks = longer
	}
	return tricks
}

// leastOfHands goes through all tricks that four hands can play, one whole trick after the other.
func leastOfHands(hands [][]int64, strain, leader, side int64) int64 {
	if len(hands[0]) == 0 {
		return 0
	}
	least := int64(math.MaxInt64)
	for _, trick := range tricksOfCards(hands, leader) {
		left := make([][]int64, 4)
		for place, card := range trick {
			seat := (leader + int64(place)) % 4
			left[seat] = listWithout(hands[seat], card)
		}
		winner := (leader + int64(slices.Index(trick, winningCard(strain, trick)))) % 4
		won := leastOfHands(left, strain, winner, side)
		if winner%2 == side {
			won++
		}
		least = min(least, won)
	}
	return least
}

// leastTricks requires a play of the deal without an unfinished trick, and at most three others.
func leastTricks(d impl.Deal, p impl.Play, side int64) int64 {
	r := recordOf(d, p)
	return leastOfHands(r.left(), p.Strain, r.seat(len(p.Cards)), side)
}

// goLoosely adds cards of the seats whose turn it is until all have been played. One card of so
// many is chosen without a look at what was led.
func (n *numberStream) goLoosely(d impl.Deal, p impl.Play, many int) impl.Play {
	for {
		r := recordOf(d, p)
		if r.finished() {
			return p
		}
		choice := r.left()[r.seat(len(p.Cards))]
		if n.below(many) != 0 {
			choice = r.legal()
		}
		p = playWith(p, choice[n.below(len(choice))])
	}
}

// loosePlays lists finished loose plays of all deals, from every leader in every strain: some with
// a few revokes or none, and some whose seats never look at what was led.
func loosePlays() []deskPlay {
	var list []deskPlay
	numbers := numberStream(27)
	for _, d := range dealsToPlay() {
		for strain := range int64(5) {
			for leader := range int64(4) {
				for _, many := range []int{1, 4 + numbers.below(20)} {
					p := numbers.goLoosely(d, impl.Play{Strain: strain, Leader: leader}, many)
					list = append(list, deskPlay{deal: d, play: p})
				}
			}
		}
	}
	return list
}

func tricksAroundTheirRange() []int64 { return append(cardRange(-2, 15), outside(13)...) }

// mustBeLoose compares what the program says of revokes with the definitions.
func mustBeLoose(t *testing.T, d impl.Deal, p impl.Play) {
	t.Helper()
	is := isLoose(d, p)
	if got := impl.IsLoosePlay(d, p); got != is {
		t.Fatalf("IsLoosePlay(%v, %v) = %v, want %v", d, p, got, is)
	}
	var revokes []impl.Revoke
	var passed, adjusted []int64
	code := int64(impl.ErrInvalid)
	if is {
		r := recordOf(d, p)
		revokes, code = r.revokes(), impl.ErrState
		if r.finished() {
			passed, adjusted, code = r.transfers(), r.adjusted(), impl.ErrNone
		}
	}
	if got := impl.RevokesOf(d, p); !slices.Equal(got, revokes) {
		t.Fatalf("RevokesOf(%v, %v) = %v, want %v", d, p, got, revokes)
	}
	if got, gotCode := impl.TransfersOf(d, p); !slices.Equal(got, passed) || gotCode != code {
		t.Fatalf("TransfersOf(%v, %v) = %v, %d, want %v, %d", d, p, got, gotCode, passed, code)
	}
	if got, gotCode := impl.AdjustedTricks(d, p); !slices.Equal(got, adjusted) || gotCode != code {
		t.Fatalf("AdjustedTricks(%v, %v) = %v, %d, want %v, %d", d, p, got, gotCode, adjusted, code)
	}
}

// mustBeEstablished compares tricks of a loose play with the definition.
func mustBeEstablished(t *testing.T, d impl.Deal, p impl.Play, tricks []int64) {
	t.Helper()
	r := recordOf(d, p)
	for _, trick := range tricks {
		if got, want := impl.IsEstablished(d, p, trick), r.isEstablished(trick); got != want {
			t.Fatalf("IsEstablished(%v, %v, %d) = %v, want %v", d, p, trick, got, want)
		}
	}
}

// mustNotBeLoose checks all that the program says of a value that is no loose play of d, or of a
// play and a value that is no deal.
func mustNotBeLoose(t *testing.T, d impl.Deal, p impl.Play) {
	t.Helper()
	if impl.IsLoosePlay(d, p) {
		t.Fatalf("IsLoosePlay(%v, %v) = true", d, p)
	}
	if revokes := impl.RevokesOf(d, p); len(revokes) != 0 {
		t.Fatalf("RevokesOf(%v, %v) = %v, want none", d, p, revokes)
	}
	for trick := int64(-1); trick <= 13; trick++ {
		if impl.IsEstablished(d, p, trick) {
			t.Fatalf("IsEstablished(%v, %v, %d) = true", d, p, trick)
		}
	}
	if passed, code := impl.TransfersOf(d, p); len(passed) != 0 || code != impl.ErrInvalid {
		t.Fatalf("TransfersOf(%v, %v) = %v, %d, want ErrInvalid", d, p, passed, code)
	}
	if adjusted, code := impl.AdjustedTricks(d, p); len(adjusted) != 0 || code != impl.ErrInvalid {
		t.Fatalf("AdjustedTricks(%v, %v) = %v, %d, want ErrInvalid", d, p, adjusted, code)
	}
	mustNotAllowClaims(t, d, p)
}

// mustNotAllowClaims checks all that the program says of claims where none can be made.
func mustNotAllowClaims(t *testing.T, d impl.Deal, p impl.Play) {
	t.Helper()
	for _, seat := range []int64{-1, 0, 1, 2, 3, 4} {
		for _, tricks := range []int64{-1, 0, 1, 14} {
			mustNotBeClaim(t, d, p, impl.Claim{Seat: seat, Tricks: tricks})
		}
	}
	for side := int64(-1); side <= 2; side++ {
		if least, code := impl.LeastTricks(d, p, side); least != 0 || code != impl.ErrInvalid {
			t.Fatalf("LeastTricks(%v, %v, %d) = %d, %d, want ErrInvalid", d, p, side, least, code)
		}
	}
}

func mustNotBeClaim(t *testing.T, d impl.Deal, p impl.Play, c impl.Claim) {
	t.Helper()
	if impl.IsClaim(d, p, c) {
		t.Fatalf("IsClaim(%v, %v, %v) = true", d, p, c)
	}
	if totals, code := impl.ClaimTotals(d, p, c); len(totals) != 0 || code != impl.ErrInvalid {
		t.Fatalf("ClaimTotals(%v, %v, %v) = %v, %d, want ErrInvalid", d, p, c, totals, code)
	}
	if holds, code := impl.ClaimHolds(d, p, c); holds || code != impl.ErrInvalid {
		t.Fatalf("ClaimHolds(%v, %v, %v) = %v, %d, want ErrInvalid", d, p, c, holds, code)
	}
}

// mustHaveLeast compares what the program says of both sides, and of numbers that are no sides, with
// the definition. It returns the least tricks of both sides, where there are any. It requires a play
// of the deal without an unfinished trick.
func mustHaveLeast(t *testing.T, d impl.Deal, p impl.Play) []int64 {
	t.Helper()
	var least []int64
	code := int64(impl.ErrLimit)
	if remainingTricks(d, p) <= 3 {
		least, code = []int64{leastTricks(d, p, 0), leastTricks(d, p, 1)}, impl.ErrNone
	}
	for side := range int64(2) {
		want := int64(0)
		if code == impl.ErrNone {
			want = least[side]
		}
		if got, gotCode := impl.LeastTricks(d, p, side); got != want || gotCode != code {
			t.Fatalf("LeastTricks(%v, %v, %d) = %d, %d, want %d, %d", d, p, side, got, gotCode, want, code)
		}
	}
	for _, side := range outside(2) {
		if got, gotCode := impl.LeastTricks(d, p, side); got != 0 || gotCode != impl.ErrRange {
			t.Fatalf("LeastTricks(%v, %v, %d) = %d, %d, want ErrRange", d, p, side, got, gotCode)
		}
	}
	return least
}

// mustClaim compares a claim with the definitions. The least tricks of both sides are given, or
// nothing if too many tricks remain.
func mustClaim(t *testing.T, d impl.Deal, p impl.Play, c impl.Claim, least []int64) {
	t.Helper()
	if !isClaim(d, p, c) {
		mustNotBeClaim(t, d, p, c)
		return
	}
	if !impl.IsClaim(d, p, c) {
		t.Fatalf("IsClaim(%v, %v, %v) = false", d, p, c)
	}
	totals, code := impl.ClaimTotals(d, p, c)
	if want := claimTotals(d, p, c); !slices.Equal(totals, want) || code != impl.ErrNone {
		t.Fatalf("ClaimTotals(%v, %v, %v) = %v, %d, want %v", d, p, c, totals, code, want)
	}
	want, wantCode := false, int64(impl.ErrLimit)
	if least != nil {
		want, wantCode = least[c.Seat%2] >= c.Tricks, impl.ErrNone
	}
	if got, gotCode := impl.ClaimHolds(d, p, c); got != want || gotCode != wantCode {
		t.Fatalf("ClaimHolds(%v, %v, %v) = %v, %d, want %v, %d", d, p, c, got, gotCode, want, wantCode)
	}
}

// evenDeal is the deal of writtenPlaysOfEvenDeal, in which every hand has two spades, a heart and a
// diamond.
func evenDeal(t *testing.T) impl.Deal {
	return dealNamed(t, "SA SQ H2 D2", "SK SJ H3 D3", "S2 S3 H4 D4", "S4 S5 H5 D5")
}

// writtenLoosePlay is written with its revokes, and with the tricks as they were won, those that
// pass, and the adjusted ones of both sides after a finished play; with "..." for other loose plays
// and "!" for none.
type writtenLoosePlay struct {
	strain, leader int64
	cards          string
	revokes        string
	result         string
}

// writtenLoosePlays are plays of writtenDeal.
var writtenLoosePlays = []writtenLoosePlay{
	{4, 0, "", "", "..."}, {4, 1, "", "", "..."}, {0, 3, "", "", "..."}, {4, 0, "H2", "", "..."}, {4, 0, "H2 H3", "", "..."},
	{5, 0, "", "", "!"}, {-1, 0, "", "", "!"}, {4, 4, "", "", "!"}, {4, -1, "", "", "!"}, {5, 0, "H2 SK", "", "!"},
	// Cards of another seat, of nobody, and cards that were played before.
	{4, 0, "H3", "", "!"}, {4, 1, "H2", "", "!"}, {4, 0, "C2", "", "!"}, {4, 0, "H2 HA", "", "!"}, {4, 0, "H2 H4", "", "!"},
	{4, 0, "H2 H3 H4", "", "!"}, {4, 0, "H5", "", "!"}, {4, 0, "H2 H5", "", "!"}, {4, 0, "H2 H2", "", "!"}, {4, 0, "H2 H3 H3", "", "!"},
	{4, 0, "H2 SK HA CA HA", "", "!"}, {4, 0, "H2 SK HA CA H4", "", "!"}, {4, 0, "H2 SK HA CA D2", "", "!"}, {4, 0, "H2 SK HA CA S2 CA", "", "!"},
	{3, 0, "H2 SK HA CA S2", "", "!"},
	// Revokes at each place of a trick but the first one.
	{4, 0, "H2 SK", "0E:SK", "..."}, {4, 0, "H2 D2", "0E:D2", "..."}, {4, 0, "SA H3", "0E:H3", "..."}, {4, 0, "SA D2", "0E:D2", "..."},
	{4, 0, "H2 H3 S2", "0S:S2", "..."}, {4, 0, "H2 SK S2", "0E:SK 0S:S2", "..."}, {3, 0, "H2 SK S3 CA", "0E:SK 0S:S3", "..."},
	{4, 1, "D2 HA CA", "0W:CA", "..."}, {4, 1, "D2 HA C2 SA", "0W:C2", "..."}, {4, 2, "S2 CA H4", "0N:H4", "..."},
	{4, 2, "S2 CA H4 H3", "0N:H4 0E:H3", "..."}, {4, 3, "DA H2 SK", "0E:SK", "..."}, {4, 3, "DA H2 H3", "0E:H3", "..."},
	{4, 1, "SK HA CA H2", "0S:HA 0N:H2", "..."}, {4, 1, "H3 S2 CA SA", "0S:S2 0N:SA", "..."},
	// Seats that have no card of the suit that was led, or have played it before.
	{4, 0, "H2 H3 HA CA", "", "..."}, {4, 0, "H2 SK HA DA", "0E:SK", "..."}, {4, 3, "CA H2 SK HA", "", "..."}, {4, 3, "DA H2 D2 HA", "", "..."},
	{4, 0, "H2 H3 HA CA S2 C2 SA SK H4 D2", "", "..."}, {4, 0, "H2 SK HA CA S2 C2 SA D2", "0E:SK", "..."},
	{4, 3, "DA H2 D2 HA CA H4 SK S2", "", "..."},
	// A card that is led is no revoke, though the suit before it is left.
	{4, 0, "H2 H3 HA CA S2 C2 H4", "1N:H4", "..."}, {4, 0, "SA SK S2 CA H2", "", "..."}, {4, 0, "H2 SK HA CA S3", "0E:SK", "..."},
	{4, 0, "H2 H3 HA CA S2 C2 SA D2", "1E:D2", "..."}, {4, 0, "H2 H3 S2 CA SK S3 C2 H4", "0S:S2 1N:H4", "..."},
	// All cards but one.
	{4, 0, "H2 SK HA CA S2 C2 SA H3 H4 D2 S3", "0E:SK", "..."},
	// Finished plays: without a revoke; of a side that wins nothing; of a seat that ruffs and wins one
	// trick, or three; of a seat whose partner wins one trick, or three; of both seats of a side
	// that wins nothing; of a side that has won only before it revokes.
	{4, 0, "H2 H3 HA CA S2 C2 SA SK H4 D2 S3 DA", "", "3-0 0-0 3-0"},
	{4, 0, "H2 SK HA CA S2 C2 SA H3 H4 D2 S3 DA", "0E:SK", "3-0 0-0 3-0"},
	{3, 0, "H2 SK HA CA H3 S2 C2 H4 S3 DA SA D2", "0E:SK", "2-1 0-1 3-0"},
	{1, 0, "H2 D2 HA CA H3 S2 DA H4 C2 SA SK S3", "0E:D2", "0-3 0-2 2-1"},
	{3, 3, "DA H2 H3 HA CA H4 D2 S2 S3 C2 SA SK", "0E:H3", "2-1 0-1 3-0"},
	{1, 0, "H2 SK HA DA CA H4 D2 S2 H3 S3 C2 SA", "0E:SK", "0-3 0-1 1-2"},
	{4, 0, "H2 H3 S2 C2 SK S3 CA H4 D2 HA DA SA", "0S:S2 1N:H4", "0-3 0-0 0-3"},
	{3, 3, "CA H2 H3 HA DA SA SK S2 H4 D2 S3 C2", "1E:SK", "2-1 0-0 2-1"},
	// Cards behind the end.
	{4, 0, "H2 SK HA CA S2 C2 SA H3 H4 D2 S3 DA C3", "", "!"}, {4, 0, "H2 SK HA CA S2 C2 SA H3 H4 D2 S3 DA H2", "", "!"},
}

var writtenPlaysOfEvenDeal = []writtenLoosePlay{
	// A seat revokes again: first in a trick of the other side, then in one that it wins; and the other
	// way round, where its partner is the second one.
	{2, 0, "SA D3 S2 S4 SQ H3 S3 S5 SK H4 D5 H2 D4 H5 D2 SJ", "0E:D3 1E:H3", "2-2 0-1 3-1"},
	{2, 0, "SA H3 S2 S4 SK S3 D5 SQ SJ H4 S5 H2 D4 H5 D2 D3", "0E:H3 1W:D5", "1-3 0-2 3-1"},
	// Both seats of a side revoke in one trick, which the second one wins, or the first one.
	{2, 0, "SA D3 S2 H5 S4 SQ SK S3 SJ H4 S5 H2 D4 D5 D2 H3", "0E:D3 0W:H5", "1-3 0-1 2-2"},
	{2, 0, "SA H3 S2 D5 SK S3 S4 SQ SJ D4 S5 D2 D3 H4 H5 H2", "0E:H3 0W:D5", "0-4 0-2 2-2"},
	// Both sides revoke in one trick, and one after the other. In the latter play East and West have
	// one trick from their revoke on, but would have three if those of the other side passed first.
	{2, 0, "SA H3 H4 S4 S2 S5 SQ SK SJ S3 H5 H2 D5 D2 D3 D4", "0E:H3 0S:H4", "1-3 1-1 1-3"},
	{2, 1, "SK H4 S4 SA D4 H5 D2 H3 S5 SQ SJ S2 H2 D3 S3 D5", "0S:H4 1W:H5 1E:H3", "3-1 2-1 2-2"},
	{2, 1, "SK H4 S4 SA S2 H5 SQ SJ S5 H2 D3 S3 D2 H3 D4 D5", "0S:H4 1W:H5", "2-2 2-2 2-2"},
	// A seat whose partner wins the trick, and one that revokes as late as it can.
	{4, 0, "SA SK H4 S4 SQ SJ S2 S5 H2 H3 S3 H5 D5 D2 D3 D4", "0S:H4", "2-2 1-0 1-3"},
	{4, 0, "SA SJ S2 S4 H2 H3 H4 H5 D5 SQ D3 D4 S5 D2 SK S3", "2N:SQ", "1-3 0-0 1-3"},
	{2, 0, "SA SJ S2 S4 H2 H3 H4 H5 D5 SQ D3 D4 S5 D2 SK S3", "2N:SQ", "1-3 0-0 1-3"},
}

func textOfRevokes(revokes []impl.Revoke) string {
	var words []string
	for _, r := range revokes {
		words = append(words, fmt.Sprintf("%d%c:%s", r.Trick, seatNames[r.Seat], cardTexts[r.Card]))
	}
	return strings.Join(words, " ")
}

// looseResultOf writes what the program says of a play in the way of writtenLoosePlay.
func looseResultOf(t *testing.T, d impl.Deal, p impl.Play) string {
	t.Helper()
	passed, code := impl.TransfersOf(d, p)
	adjusted, adjustedCode := impl.AdjustedTricks(d, p)
	if code != adjustedCode {
		t.Fatalf("the codes of TransfersOf and AdjustedTricks of %v are %d and %d", p, code, adjustedCode)
	}
	loose := impl.IsLoosePlay(d, p)
	switch {
	case code == impl.ErrInvalid && !loose:
		return "!"
	case code == impl.ErrState && loose:
		return "..."
	case code != impl.ErrNone || !loose || len(passed) != 2 || len(adjusted) != 2:
		return fmt.Sprintf("code %d: %v, %v", code, passed, adjusted)
	}
	won := impl.TricksOfSides(p)
	return fmt.Sprintf("%d-%d %d-%d %d-%d", won[0], won[1], passed[0], passed[1], adjusted[0], adjusted[1])
}

func mustBeAsWritten(t *testing.T, d impl.Deal, list []writtenLoosePlay) {
	t.Helper()
	for _, written := range list {
		p := impl.Play{Strain: written.strain, Leader: written.leader, Cards: cardsNamed(t, written.cards)}
		if got := textOfRevokes(impl.RevokesOf(d, p)); got != written.revokes {
			t.Errorf("the play %d, %d: %s has the revokes %q, want %q", written.strain, written.leader, written.cards, got, written.revokes)
		}
		if got := looseResultOf(t, d, p); got != written.result {
			t.Errorf("the play %d, %d: %s comes to %q, want %q", written.strain, written.leader, written.cards, got, written.result)
		}
		mustBeLoose(t, d, p)
		if written.result == "!" {
			mustNotBeLoose(t, d, p)
		} else if isPlay := impl.IsPlay(d, p); isPlay != (written.revokes == "") {
			t.Errorf("IsPlay of %s is %v, and the revokes are %q", written.cards, isPlay, written.revokes)
		}
	}
}

func TestWrittenLoosePlays(t *testing.T) {
	mustBeAsWritten(t, writtenDeal(t), writtenLoosePlays)
	mustBeAsWritten(t, evenDeal(t), writtenPlaysOfEvenDeal)
}

// establishedTricks lists the tricks whose revokes are established.
func establishedTricks(d impl.Deal, p impl.Play) string {
	var list []int
	for trick := -3; trick <= 20; trick++ {
		if impl.IsEstablished(d, p, int64(trick)) {
			list = append(list, trick)
		}
	}
	return fmt.Sprint(list)
}

func TestWrittenRevokesThatAreEstablished(t *testing.T) {
	d := evenDeal(t)
	for _, c := range []struct {
		cards string
		want  [17]string
	}{
		// Revokes in the tricks 0 and 1.
		{"SA D3 S2 S4 SQ H3 S3 S5 SK H4 D5 H2 D4 H5 D2 SJ", [17]string{
			"[]", "[]", "[]", "[]", "[]", "[0]", "[0]", "[0]", "[0]", "[0 1]", "[0 1]", "[0 1]", "[0 1]", "[0 1]", "[0 1]", "[0 1]", "[0 1]"}},
		// A revoke in the trick 2, the last one in which a seat has another card to play.
		{"SA SJ S2 S4 H2 H3 H4 H5 D5 SQ D3 D4 S5 D2 SK S3", [17]string{
			"[]", "[]", "[]", "[]", "[]", "[]", "[]", "[]", "[]", "[]", "[]", "[]", "[]", "[2]", "[2]", "[2]", "[2]"}},
		// Two revokes in the trick 0, and one that has no revoke.
		{"SA H3 H4 S4 S2 S5 SQ SK SJ S3 H5 H2 D5 D2 D3 D4", [17]string{
			"[]", "[]", "[]", "[]", "[]", "[0]", "[0]", "[0]", "[0]", "[0]", "[0]", "[0]", "[0]", "[0]", "[0]", "[0]", "[0]"}},
	} {
		whole := impl.Play{Strain: 2, Cards: cardsNamed(t, c.cards)}
		for length, want := range c.want {
			if got := establishedTricks(d, playUpTo(whole, length)); got != want {
				t.Errorf("after %d cards of %s the tricks %s have established revokes, want %s", length, c.cards, got, want)
			}
		}
	}
}

func TestRevokesAtNumbersThatAreNoTricks(t *testing.T) {
	for _, written := range writtenPlaysOfEvenDeal {
		whole := impl.Play{Strain: written.strain, Leader: written.leader, Cards: cardsNamed(t, written.cards)}
		for length := range 17 {
			for _, trick := range append(outside(4), 3) {
				if impl.IsEstablished(evenDeal(t), playUpTo(whole, length), trick) {
					t.Fatalf("IsEstablished after %d cards of %v is true for the trick %d", length, whole, trick)
				}
			}
		}
	}
}

func TestEveryPlayIsLoose(t *testing.T) {
	for _, desk := range finishedPlays() {
		for length := range len(desk.play.Cards) + 1 {
			p := playUpTo(desk.play, length)
			if !impl.IsLoosePlay(desk.deal, p) || len(impl.RevokesOf(desk.deal, p)) != 0 {
				t.Fatalf("the play %v of %v has the revokes %v, or is not loose", p, desk.deal, impl.RevokesOf(desk.deal, p))
			}
			if got := establishedTricks(desk.deal, p); length%5 == 0 && got != "[]" {
				t.Fatalf("the play %v of %v has established revokes in %s", p, desk.deal, got)
			}
		}
		passed, code := impl.TransfersOf(desk.deal, desk.play)
		if !slices.Equal(passed, []int64{0, 0}) || code != impl.ErrNone {
			t.Fatalf("TransfersOf(%v, %v) = %v, %d, and there is no revoke", desk.deal, desk.play, passed, code)
		}
		adjusted, code := impl.AdjustedTricks(desk.deal, desk.play)
		if won := impl.TricksOfSides(desk.play); !slices.Equal(adjusted, won) || code != impl.ErrNone {
			t.Fatalf("AdjustedTricks(%v, %v) = %v, %d, and without revokes the tricks are %v", desk.deal, desk.play, adjusted, code, won)
		}
	}
}

// A deal without cards has one play for each strain and leader, in which all cards have been played.
func TestRevokesAndClaimsWithoutCards(t *testing.T) {
	for _, d := range []impl.Deal{dealOf(nil, nil, nil, nil), dealOf([]int64{}, nil, []int64{}, nil)} {
		for leader := range int64(4) {
			p := impl.Play{Strain: leader, Leader: leader}
			if got := looseResultOf(t, d, p); got != "0-0 0-0 0-0" {
				t.Errorf("the play without cards of the deal without cards comes to %q", got)
			}
			mustBeEstablished(t, d, p, tricksAroundTheirRange())
			least := mustHaveLeast(t, d, p)
			if !slices.Equal(least, []int64{0, 0}) {
				t.Errorf("the least tricks without cards are %v", least)
			}
			for _, tricks := range []int64{-1, 0, 1} {
				mustClaim(t, d, p, impl.Claim{Seat: leader, Tricks: tricks}, least)
			}
			mustNotBeLoose(t, d, playWith(p, 0))
		}
	}
}

// mustKeepTricks checks the promise for a finished loose play.
func mustKeepTricks(t *testing.T, d impl.Deal, p impl.Play) {
	t.Helper()
	won := impl.TricksOfSides(p)
	passed, code := impl.TransfersOf(d, p)
	adjusted, adjustedCode := impl.AdjustedTricks(d, p)
	if code != impl.ErrNone || adjustedCode != impl.ErrNone || len(passed) != 2 || len(adjusted) != 2 {
		t.Fatalf("the play %v of %v has the transfers %v, %d and the tricks %v, %d", p, d, passed, code, adjusted, adjustedCode)
	}
	if size := int64(len(d.Hands[0])); won[0]+won[1] != size || adjusted[0]+adjusted[1] != size {
		t.Fatalf("the play %v of %v has %v tricks and then %v, and there are %d", p, d, won, adjusted, size)
	}
	for side := range 2 {
		if adjusted[side] < 0 || passed[side] < 0 || passed[side] > min(2, won[side]) {
			t.Fatalf("after the play %v of %v, %v pass of the tricks %v, which makes %v", p, d, passed, won, adjusted)
		}
		if adjusted[side] != won[side]-passed[side]+passed[1-side] {
			t.Fatalf("after the play %v of %v, %v pass of the tricks %v, which makes %v", p, d, passed, won, adjusted)
		}
	}
}

// goThroughLoosePlays checks all loose plays of a deal that begin with a play, and counts the
// finished ones.
func goThroughLoosePlays(t *testing.T, d impl.Deal, p impl.Play) int {
	t.Helper()
	mustBeLoose(t, d, p)
	r := recordOf(d, p)
	if r.finished() {
		mustBeEstablished(t, d, p, cardRange(-1, 4))
		mustKeepTricks(t, d, p)
		return 1
	}
	count := 0
	for _, card := range r.left()[r.seat(len(p.Cards))] {
		count += goThroughLoosePlays(t, d, playWith(p, card))
	}
	return count
}

// Since every seat may play its cards in any order, the number of loose plays is known.
func TestAllLoosePlaysOfSmallDeals(t *testing.T) {
	for _, c := range []struct {
		hands []string
		want  int
	}{
		{[]string{"", "", "", ""}, 1},
		{[]string{"S2", "HA", "DK", "CQ"}, 1},
		{[]string{"S2 H2", "S3 H3", "S4 H4", "S5 H5"}, 16},
		{[]string{"SA H2", "SK H3", "S2 HA", "CA C2"}, 16},
	} {
		for strain := range int64(5) {
			for leader := range int64(4) {
				if got := goThroughLoosePlays(t, dealNamed(t, c.hands...), impl.Play{Strain: strain, Leader: leader}); got != c.want {
					t.Errorf("the deal %v has %d loose plays in the strain %d, want %d", c.hands, got, strain, c.want)
				}
			}
		}
	}
	for _, c := range []struct {
		strain, leader int64
		hands          []string
	}{
		{3, 0, []string{"SA H4 H2", "SK H3 D2", "S2 S3 HA", "CA C2 DA"}},
		{2, 3, []string{"S2 H2 D2", "S3 H3 D3", "S4 H4 D4", "S5 H5 D5"}},
		{4, 1, []string{"C2 C6 D3", "C3 C7 D2", "C4 C8 D5", "C5 C9 D4"}},
	} {
		if got := goThroughLoosePlays(t, dealNamed(t, c.hands...), impl.Play{Strain: c.strain, Leader: c.leader}); got != 1296 {
			t.Errorf("the deal %v has %d loose plays, want 1296", c.hands, got)
		}
	}
}

// kindOfTransfer says who has won the trick of the first revoke of a side, how many tricks of at
// most three the side wins from then on, and whether it revokes once or again. It is empty if the
// side has not revoked.
func (r record) kindOfTransfer(side int64) string {
	own := slices.DeleteFunc(r.revokes(), func(revoke impl.Revoke) bool { return revoke.Seat%2 != side })
	if len(own) == 0 {
		return ""
	}
	first := own[0]
	winner, often := "others", "once"
	switch r.leaders[first.Trick+1] {
	case first.Seat:
		winner = "seat"
	case (first.Seat + 2) % 4:
		winner = "partner"
	}
	if len(own) > 1 {
		often = "again"
	}
	return fmt.Sprintf("%s %d %s", winner, min(3, r.wonFrom(first.Trick, side)), often)
}

func TestManyLoosePlays(t *testing.T) {
	kinds := map[string]int{}
	both := 0
	for number, desk := range loosePlays() {
		all := len(desk.play.Cards)
		for length := range all + 1 {
			p := playUpTo(desk.play, length)
			mustBeLoose(t, desk.deal, p)
			if (length+number)%7 == 0 || length == all {
				mustBeEstablished(t, desk.deal, p, tricksAroundTheirRange())
			}
		}
		mustKeepTricks(t, desk.deal, desk.play)
		r := recordOf(desk.deal, desk.play)
		north, east := r.kindOfTransfer(0), r.kindOfTransfer(1)
		kinds[north]++
		kinds[east]++
		if north != "" && east != "" {
			both++
		}
	}
	for _, kind := range []string{
		"", "seat 1 once", "seat 2 once", "seat 3 once", "seat 1 again", "seat 2 again", "seat 3 again",
		"partner 1 once", "partner 2 once", "partner 3 once", "partner 1 again", "partner 2 again", "partner 3 again",
		"others 0 once", "others 1 once", "others 2 once", "others 3 once", "others 0 again", "others 1 again", "others 2 again", "others 3 again",
	} {
		if kinds[kind] == 0 {
			t.Errorf("the test has no play of the kind %q", kind)
		}
	}
	if both < 50 {
		t.Errorf("the test has %d plays in which both sides revoke", both)
	}
}

// Two cards of a loose play that change places, or one that is replaced, seldom leave one.
func TestLoosePlaysWithCardsChanged(t *testing.T) {
	still, broken := 0, 0
	for number, desk := range loosePlays() {
		if number%9 != 0 {
			continue
		}
		for p := range withCardsChanged(desk.play) {
			mustBeLoose(t, desk.deal, p)
			if impl.IsLoosePlay(desk.deal, p) {
				still++
			} else {
				broken++
				mustNotBeLoose(t, desk.deal, p)
			}
		}
	}
	if still < 100 || broken < 1000 {
		t.Fatalf("the test made %d loose plays and %d other lists", still, broken)
	}
}

func TestValuesThatAreNoLoosePlays(t *testing.T) {
	d := writtenDeal(t)
	revoke := cardsNamed(t, "H2 SK")
	for _, strain := range outside(5) {
		mustNotBeLoose(t, d, impl.Play{Strain: strain})
		mustNotBeLoose(t, d, impl.Play{Strain: strain, Cards: revoke})
	}
	for _, leader := range outside(4) {
		mustNotBeLoose(t, d, impl.Play{Leader: leader})
		mustNotBeLoose(t, d, impl.Play{Strain: 4, Leader: leader, Cards: revoke})
	}
	for _, cards := range []string{"", "H2", "H2 SK", "H2 SK HA CA", "H2 SK HA CA S2 C2 SA H3 H4 D2 S3 DA"} {
		p := impl.Play{Strain: 4, Cards: cardsNamed(t, cards)}
		for _, number := range outside(52) {
			mustNotBeLoose(t, d, playWith(p, number))
		}
		for _, card := range append(slices.Clone(p.Cards), cardsNamed(t, "C3 D3 H5 S4")...) {
			mustNotBeLoose(t, d, playWith(p, card))
		}
	}
	for leader := int64(1); leader <= 3; leader++ {
		mustNotBeLoose(t, d, impl.Play{Strain: 4, Leader: leader, Cards: revoke})
	}
	mustNotBeLoose(t, d, impl.Play{Cards: make([]int64, 52)})
	mustNotBeLoose(t, d, impl.Play{Cards: cardRange(0, 2000)})
}

func TestRevokesAndClaimsOfValuesThatAreNoDeals(t *testing.T) {
	for _, d := range notDeals() {
		mustNotBeLoose(t, d, impl.Play{})
		mustNotBeLoose(t, d, impl.Play{Strain: 4, Leader: 3})
		mustNotBeLoose(t, d, impl.Play{Strain: -1, Cards: []int64{52}})
		if len(d.Hands) > 0 && len(d.Hands[0]) > 0 {
			mustNotBeLoose(t, d, impl.Play{Strain: 4, Cards: []int64{d.Hands[0][0]}})
		}
	}
}

func TestOrderOfErrorsOfTransfers(t *testing.T) {
	for _, c := range []struct {
		play impl.Play
		want int64
	}{
		{impl.Play{Strain: 5, Cards: []int64{0, 1, 2, 3}}, impl.ErrInvalid},
		{impl.Play{Leader: -1}, impl.ErrInvalid},
		{impl.Play{Leader: 1, Cards: []int64{0}}, impl.ErrInvalid},
		{impl.Play{Cards: []int64{0, 1, 2, 4}}, impl.ErrInvalid},
		{impl.Play{Cards: []int64{0, 1, 2, 2}}, impl.ErrInvalid},
		{impl.Play{Cards: []int64{0, 1, 2, 3, 4}}, impl.ErrInvalid},
		{impl.Play{}, impl.ErrState},
		{impl.Play{Cards: []int64{0}}, impl.ErrState},
		{impl.Play{Cards: []int64{0, 1, 2}}, impl.ErrState},
		{impl.Play{Cards: []int64{0, 1, 2, 3}}, impl.ErrNone},
		{impl.Play{Leader: 2, Cards: []int64{2, 3, 0, 1}}, impl.ErrNone},
	} {
		passed, code := impl.TransfersOf(smallDeal(), c.play)
		adjusted, adjustedCode := impl.AdjustedTricks(smallDeal(), c.play)
		if code != c.want || adjustedCode != c.want {
			t.Errorf("TransfersOf and AdjustedTricks of %v return the codes %d and %d, want %d", c.play, code, adjustedCode, c.want)
		}
		if code != impl.ErrNone && len(passed)+len(adjusted) != 0 {
			t.Errorf("TransfersOf and AdjustedTricks of %v return %v and %v beside a code", c.play, passed, adjusted)
		}
	}
	// Revokes change no code.
	d := evenDeal(t)
	for _, written := range writtenPlaysOfEvenDeal {
		whole := impl.Play{Strain: written.strain, Leader: written.leader, Cards: cardsNamed(t, written.cards)}
		for length := range 17 {
			_, code := impl.TransfersOf(d, playUpTo(whole, length))
			_, adjustedCode := impl.AdjustedTricks(d, playUpTo(whole, length))
			want := int64(impl.ErrState)
			if length == 16 {
				want = impl.ErrNone
			}
			if code != want || adjustedCode != want {
				t.Errorf("after %d cards of %v the codes are %d and %d, want %d", length, whole, code, adjustedCode, want)
			}
		}
	}
}

// writtenClaims are plays of writtenDeal, with the least tricks of both sides, or "!" where no claim
// can be made.
var writtenClaims = []struct {
	strain, leader int64
	cards          string
	least          string
}{
	// North and South have the highest spades and hearts, and West has minor suits that nobody follows.
	{4, 0, "", "3-0"}, {4, 2, "", "3-0"}, {4, 3, "", "0-3"}, {4, 1, "", "0-0"},
	{4, 0, "H2 H3 HA CA", "2-0"}, {4, 0, "H2 H3 HA CA S2 C2 SA SK", "1-0"}, {4, 0, "H2 H3 HA CA S2 C2 SA SK H4 D2 S3 DA", "0-0"},
	{4, 3, "CA H2 SK S2", "0-2"}, {4, 3, "CA H2 SK S2 C2 H4 D2 S3", "0-1"}, {4, 3, "CA H2 SK S2 C2 H4 D2 S3 DA SA H3 HA", "0-0"},
	{4, 0, "H2", "!"}, {4, 0, "H2 H3", "!"}, {4, 0, "H2 H3 HA", "!"}, {4, 0, "H2 H3 HA CA S2", "!"}, {4, 0, "H2 H3 HA CA S2 C2 SA SK H4 D2 S3", "!"},
	{4, 0, "H2 SK HA CA", "!"}, {4, 0, "H2 SK HA CA S2 C2 SA H3", "!"}, {4, 0, "H2 SK HA CA S2 C2 SA H3 H4 D2 S3 DA", "!"},
	{4, 0, "H3", "!"}, {5, 0, "", "!"}, {4, 4, "", "!"},
}

func TestWrittenClaims(t *testing.T) {
	d := writtenDeal(t)
	for _, written := range writtenClaims {
		p := impl.Play{Strain: written.strain, Leader: written.leader, Cards: cardsNamed(t, written.cards)}
		if written.least == "!" {
			mustNotAllowClaims(t, d, p)
			continue
		}
		north, code := impl.LeastTricks(d, p, 0)
		east, otherCode := impl.LeastTricks(d, p, 1)
		if got := fmt.Sprintf("%d-%d", north, east); got != written.least || code != impl.ErrNone || otherCode != impl.ErrNone {
			t.Errorf("the least tricks of %d, %d: %s are %s with the codes %d and %d, want %s", written.strain, written.leader, written.cards, got, code, otherCode, written.least)
		}
		for seat := int64(-1); seat <= 4; seat++ {
			for tricks := int64(-1); tricks <= 4; tricks++ {
				mustClaim(t, d, p, impl.Claim{Seat: seat, Tricks: tricks}, []int64{north, east})
			}
		}
	}
}

func TestWrittenTotalsOfClaims(t *testing.T) {
	d := writtenDeal(t)
	for _, c := range []struct {
		cards        string
		seat, tricks int64
		want         []int64
	}{
		{"", 0, 3, []int64{3, 0}}, {"", 0, 0, []int64{0, 3}}, {"", 1, 3, []int64{0, 3}}, {"", 2, 1, []int64{1, 2}}, {"", 3, 0, []int64{3, 0}},
		{"H2 H3 HA CA", 0, 2, []int64{3, 0}}, {"H2 H3 HA CA", 2, 0, []int64{1, 2}}, {"H2 H3 HA CA", 3, 1, []int64{2, 1}},
		{"H2 H3 HA CA S2 C2 SA SK", 1, 1, []int64{2, 1}}, {"H2 H3 HA CA S2 C2 SA SK H4 D2 S3 DA", 3, 0, []int64{3, 0}},
		{"", 0, 4, nil}, {"", 0, -1, nil}, {"", 4, 0, nil}, {"", -1, 0, nil}, {"H2 H3 HA CA", 0, 3, nil}, {"H2 H3 HA", 0, 0, nil},
		{"H2 H3 HA CA S2 C2 SA SK H4 D2 S3 DA", 3, 1, nil},
	} {
		p := impl.Play{Strain: 4, Cards: cardsNamed(t, c.cards)}
		wantCode := int64(impl.ErrNone)
		if c.want == nil {
			wantCode = impl.ErrInvalid
		}
		got, code := impl.ClaimTotals(d, p, impl.Claim{Seat: c.seat, Tricks: c.tricks})
		if !slices.Equal(got, c.want) || code != wantCode {
			t.Errorf("ClaimTotals after %q of {%d, %d} = %v, %d, want %v, %d", c.cards, c.seat, c.tricks, got, code, c.want, wantCode)
		}
	}
}

// dealsToClaim lists deals of 0 to 13 cards a hand, and small ones of few suits and of whole suits.
func dealsToClaim(t *testing.T) []impl.Deal {
	list := []impl.Deal{
		smallDeal(), writtenDeal(t), evenDeal(t),
		dealOf(cardRange(0, 2), cardRange(13, 15), cardRange(26, 28), cardRange(39, 41)),
		dealNamed(t, "S2 S6 ST", "S3 S7 SJ", "S4 S8 SQ", "S5 S9 SK"),
		dealNamed(t, "SA SK SQ", "S2 S3 S4", "HA HK HQ", "H2 H3 H4"),
	}
	numbers := numberStream(22)
	for size := 0; size <= 13; size++ {
		list = append(list, numbers.someDeal(size))
		if size > 0 && size < 4 {
			list = append(list, dealOfCards(cardRange(10, 9+4*int64(size)), &numbers), dealOfCards(cardRange(30, 29+4*int64(size)), &numbers))
		}
	}
	return list
}

func TestManyClaims(t *testing.T) {
	numbers := numberStream(23)
	held, failed, limited := 0, 0, 0
	for _, d := range dealsToClaim(t) {
		for strain := range int64(5) {
			whole := numbers.goOn(d, impl.Play{Strain: strain, Leader: int64(numbers.below(4))})
			for length := 0; length <= len(whole.Cards); length += 4 {
				p := playUpTo(whole, length)
				least := mustHaveLeast(t, d, p)
				for seat := int64(-1); seat <= 4; seat++ {
					for tricks := int64(-1); tricks <= remainingTricks(d, p)+1; tricks++ {
						c := impl.Claim{Seat: seat, Tricks: tricks}
						mustClaim(t, d, p, c, least)
						mustAccountForAllTricks(t, d, p, c)
						switch {
						case !isClaim(d, p, c):
						case least == nil:
							limited++
						case least[seat%2] < tricks:
							failed++
						case tricks > 0:
							held++
						}
					}
				}
			}
		}
	}
	if held < 50 || failed < 200 || limited < 1000 {
		t.Fatalf("the test has %d claims that hold, %d that do not, and %d beyond the limit", held, failed, limited)
	}
}

func mustAccountForAllTricks(t *testing.T, d impl.Deal, p impl.Play, c impl.Claim) {
	t.Helper()
	totals, code := impl.ClaimTotals(d, p, c)
	if code != impl.ErrNone {
		return
	}
	won := impl.TricksOfSides(p)
	size := int64(len(d.Hands[0]))
	if len(totals) != 2 || totals[0]+totals[1] != size || totals[0] < won[0] || totals[1] < won[1] {
		t.Fatalf("ClaimTotals(%v, %v, %v) = %v, with %v of %d tricks", d, p, c, totals, won, size)
	}
	if side := c.Seat % 2; totals[side] != won[side]+c.Tricks {
		t.Fatalf("ClaimTotals(%v, %v, %v) = %v, with the tricks %v", d, p, c, totals, won)
	}
}

func TestClaimsInUnfinishedTricks(t *testing.T) {
	for number, desk := range finishedPlays() {
		for length := range desk.play.Cards {
			if length%4 != 0 && (number+length)%3 == 0 {
				mustNotAllowClaims(t, desk.deal, playUpTo(desk.play, length))
			}
		}
	}
}

// A loose play with a revoke is no play of the deal.
func TestClaimsAfterRevokes(t *testing.T) {
	checked := 0
	for _, desk := range loosePlays() {
		for length := 0; length <= len(desk.play.Cards); length += 4 {
			p := playUpTo(desk.play, length)
			if len(impl.RevokesOf(desk.deal, p)) > 0 {
				mustNotAllowClaims(t, desk.deal, p)
				checked++
			}
		}
	}
	if checked < 200 {
		t.Fatalf("the test has %d plays with revokes", checked)
	}
}

func TestClaimsFarOutsideTheirRanges(t *testing.T) {
	d := writtenDeal(t)
	for _, cards := range []string{"", "H2 H3 HA CA", "H2 H3 HA CA S2 C2 SA SK H4 D2 S3 DA"} {
		p := impl.Play{Strain: 4, Cards: cardsNamed(t, cards)}
		for _, seat := range outside(4) {
			mustNotBeClaim(t, d, p, impl.Claim{Seat: seat})
		}
		for _, tricks := range outside(4) {
			mustNotBeClaim(t, d, p, impl.Claim{Seat: 3, Tricks: tricks})
		}
	}
	for _, seat := range outside(4) {
		for _, tricks := range outside(14) {
			mustNotBeClaim(t, everyFourthCard(), impl.Play{}, impl.Claim{Seat: seat})
			mustNotBeClaim(t, everyFourthCard(), impl.Play{}, impl.Claim{Seat: seat, Tricks: tricks})
			mustNotBeClaim(t, everyFourthCard(), impl.Play{}, impl.Claim{Tricks: tricks})
		}
	}
}

// The errors of LeastTricks and ClaimHolds, for plays of which three and four tricks remain.
func TestOrderOfErrorsOfClaims(t *testing.T) {
	three, four := writtenDeal(t), evenDeal(t)
	for _, c := range []struct {
		deal      impl.Deal
		play      impl.Play
		side      int64
		claim     impl.Claim
		leastCode int64
		holdsCode int64
	}{
		{four, impl.Play{Strain: 5}, 2, impl.Claim{Seat: 4}, impl.ErrInvalid, impl.ErrInvalid},
		{four, impl.Play{Cards: cardsNamed(t, "SA")}, 2, impl.Claim{}, impl.ErrInvalid, impl.ErrInvalid},
		{four, impl.Play{Cards: cardsNamed(t, "SA")}, 0, impl.Claim{}, impl.ErrInvalid, impl.ErrInvalid},
		{four, impl.Play{Cards: cardsNamed(t, "SK")}, 0, impl.Claim{}, impl.ErrInvalid, impl.ErrInvalid},
		{impl.Deal{}, impl.Play{}, -1, impl.Claim{}, impl.ErrInvalid, impl.ErrInvalid},
		{four, impl.Play{}, -1, impl.Claim{Seat: -1}, impl.ErrRange, impl.ErrInvalid},
		{four, impl.Play{}, 2, impl.Claim{Tricks: 5}, impl.ErrRange, impl.ErrInvalid},
		{four, impl.Play{}, 0, impl.Claim{}, impl.ErrLimit, impl.ErrLimit},
		{four, impl.Play{Strain: 4, Leader: 3}, 1, impl.Claim{Seat: 3, Tricks: 4}, impl.ErrLimit, impl.ErrLimit},
		{four, impl.Play{Strain: 4, Cards: cardsNamed(t, "SA SK S2 S4")}, 0, impl.Claim{Seat: 2, Tricks: 3}, impl.ErrNone, impl.ErrNone},
		{four, impl.Play{Strain: 4, Cards: cardsNamed(t, "SA SK S2 S4")}, 2, impl.Claim{Seat: 2, Tricks: 4}, impl.ErrRange, impl.ErrInvalid},
		{three, impl.Play{Strain: 4}, 1, impl.Claim{Seat: 1, Tricks: 3}, impl.ErrNone, impl.ErrNone},
		{three, impl.Play{Strain: 4}, 3, impl.Claim{Seat: 1, Tricks: 4}, impl.ErrRange, impl.ErrInvalid},
	} {
		if least, code := impl.LeastTricks(c.deal, c.play, c.side); code != c.leastCode || code != impl.ErrNone && least != 0 {
			t.Errorf("LeastTricks(%v, %v, %d) = %d, %d, want the code %d", c.deal, c.play, c.side, least, code, c.leastCode)
		}
		if holds, code := impl.ClaimHolds(c.deal, c.play, c.claim); code != c.holdsCode || code != impl.ErrNone && holds {
			t.Errorf("ClaimHolds(%v, %v, %v) = %v, %d, want the code %d", c.deal, c.play, c.claim, holds, code, c.holdsCode)
		}
	}
}

// goThroughContinuations plays a deal on to its end with AddCard in every legal way, and calls seen
// with the tricks of both sides of each finished play.
func goThroughContinuations(t *testing.T, d impl.Deal, p impl.Play, seen func(won []int64)) {
	t.Helper()
	ended := true
	for _, card := range slices.Concat(impl.CardsLeft(d, p)...) {
		longer, code := impl.AddCard(d, p, card)
		if code == impl.ErrNone {
			ended = false
			goThroughContinuations(t, d, longer, seen)
		}
	}
	if ended {
		if impl.TurnOf(d, p) != -1 {
			t.Fatalf("the play %v of %v does not go on", p, d)
		}
		seen(impl.TricksOfSides(p))
	}
}

// mustBeConfirmed checks the promise: a claim holds if every continuation confirms it, and only then.
func mustBeConfirmed(t *testing.T, d impl.Deal, p impl.Play) {
	t.Helper()
	before := impl.TricksOfSides(p)
	remaining := remainingTricks(d, p)
	fewest := []int64{remaining, remaining}
	goThroughContinuations(t, d, p, func(won []int64) {
		for side := range fewest {
			fewest[side] = min(fewest[side], won[side]-before[side])
		}
	})
	for side := range int64(2) {
		if least, code := impl.LeastTricks(d, p, side); least != fewest[side] || code != impl.ErrNone {
			t.Fatalf("LeastTricks(%v, %v, %d) = %d, %d, and in a continuation the side wins %d", d, p, side, least, code, fewest[side])
		}
	}
	for seat := range int64(4) {
		for tricks := range remaining + 1 {
			c := impl.Claim{Seat: seat, Tricks: tricks}
			if holds, code := impl.ClaimHolds(d, p, c); holds != (fewest[seat%2] >= tricks) || code != impl.ErrNone {
				t.Fatalf("ClaimHolds(%v, %v, %v) = %v, %d, and in a continuation the side wins %d", d, p, c, holds, code, fewest[seat%2])
			}
		}
	}
}

func TestClaimsAreConfirmedByEveryContinuation(t *testing.T) {
	numbers := numberStream(24)
	for _, d := range dealsToClaim(t) {
		for strain := range int64(5) {
			whole := numbers.goOn(d, impl.Play{Strain: strain, Leader: int64(numbers.below(4))})
			for _, remaining := range []int{0, 1, 2, 3} {
				// The longest search is made for one strain of each deal.
				if length := len(whole.Cards) - 4*remaining; length >= 0 && (remaining < 3 || strain == int64(len(d.Hands[0])%5)) {
					mustBeConfirmed(t, d, playUpTo(whole, length))
				}
			}
		}
	}
}

// What the sides win in the worst case depends on the cards that are left and on the leader alone,
// so that all sides of turned deals agree.
func TestClaimsOfTurnedDeals(t *testing.T) {
	numbers := numberStream(25)
	for range 40 {
		d := numbers.someDeal(2)
		p := impl.Play{Strain: int64(numbers.below(5)), Leader: int64(numbers.below(4))}
		least := mustHaveLeast(t, d, p)
		for by := int64(1); by <= 3; by++ {
			turned, q := turnedPlay(d, p, by)
			got := mustHaveLeast(t, turned, q)
			if by%2 == 1 {
				slices.Reverse(got)
			}
			if !slices.Equal(got, least) {
				t.Fatalf("the least tricks of %v, %v are %v, and turned by %d %v", d, p, least, by, got)
			}
		}
	}
}

// revokeNumbers writes revokes one after the other.
func revokeNumbers(revokes []impl.Revoke) []int64 {
	var list []int64
	for _, r := range revokes {
		list = append(list, r.Trick, r.Seat, r.Card)
	}
	return list
}

// desksForMemory lists some plays of each kind, with and without revokes, and values that are none.
func desksForMemory() []deskPlay {
	list := playsForMemory()
	for number, desk := range loosePlays() {
		if number%5 == 0 {
			all := len(desk.play.Cards)
			for _, length := range []int{3, 6, all} {
				list = append(list, deskPlay{deal: desk.deal, play: playUpTo(desk.play, min(length, all))})
			}
		}
	}
	return list
}

func TestMemoryOfRevokesAndClaims(t *testing.T) {
	for _, desk := range desksForMemory() {
		with := func(cards []int64) impl.Play { return playOf(desk.play, cards) }
		checkMemory(t, "RevokesOf", desk.play.Cards, func(cards []int64) []int64 { return revokeNumbers(impl.RevokesOf(desk.deal, with(cards))) })
		checkMemory(t, "TransfersOf", desk.play.Cards, func(cards []int64) []int64 {
			passed, _ := impl.TransfersOf(desk.deal, with(cards))
			return passed
		})
		checkMemory(t, "AdjustedTricks", desk.play.Cards, func(cards []int64) []int64 {
			adjusted, _ := impl.AdjustedTricks(desk.deal, with(cards))
			return adjusted
		})
		checkMemory(t, "ClaimTotals", desk.play.Cards, func(cards []int64) []int64 {
			totals, _ := impl.ClaimTotals(desk.deal, with(cards), impl.Claim{Seat: 1})
			return totals
		})
		g := guard(desk.play.Cards)
		impl.IsLoosePlay(desk.deal, with(g.list()))
		impl.IsEstablished(desk.deal, with(g.list()), 0)
		impl.IsClaim(desk.deal, with(g.list()), impl.Claim{})
		impl.LeastTricks(desk.deal, with(g.list()), 0)
		impl.ClaimHolds(desk.deal, with(g.list()), impl.Claim{Seat: 1})
		g.mustBeUnchanged(t, "the play")
	}
}

func TestMemoryOfDealsInRevokesAndClaims(t *testing.T) {
	for _, desk := range desksForMemory() {
		checkDealMemory(t, "RevokesOf", desk.deal, func(d impl.Deal) [][]int64 { return [][]int64{revokeNumbers(impl.RevokesOf(d, desk.play))} })
		checkDealMemory(t, "TransfersOf", desk.deal, func(d impl.Deal) [][]int64 {
			passed, _ := impl.TransfersOf(d, desk.play)
			adjusted, _ := impl.AdjustedTricks(d, desk.play)
			return [][]int64{passed, adjusted}
		})
		checkDealMemory(t, "ClaimTotals", desk.deal, func(d impl.Deal) [][]int64 {
			totals, _ := impl.ClaimTotals(d, desk.play, impl.Claim{})
			return [][]int64{totals}
		})
		g := guardDeal(desk.deal)
		impl.IsLoosePlay(g.deal(), desk.play)
		impl.IsEstablished(g.deal(), desk.play, 0)
		impl.IsClaim(g.deal(), desk.play, impl.Claim{})
		impl.LeastTricks(g.deal(), desk.play, 1)
		impl.ClaimHolds(g.deal(), desk.play, impl.Claim{})
		g.mustBeUnchanged(t, "the deal")
	}
}

// A list of revokes is filled up to its capacity, and another one must not show it.
func TestMemoryOfListsOfRevokes(t *testing.T) {
	for _, desk := range desksForMemory() {
		first, second := impl.RevokesOf(desk.deal, desk.play), impl.RevokesOf(desk.deal, desk.play)
		kept := slices.Clone(first)
		second = second[:cap(second)]
		for i := range second {
			second[i] = impl.Revoke{Trick: mark, Seat: mark, Card: mark}
		}
		if third := impl.RevokesOf(desk.deal, desk.play); !slices.Equal(first, kept) || !slices.Equal(third, kept) {
			t.Fatalf("RevokesOf(%v, %v) = %v and %v after a result was overwritten", desk.deal, desk.play, first, third)
		}
	}
}
