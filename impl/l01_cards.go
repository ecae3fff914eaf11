package impl

import (
	"slices"
	"strings"
)

const (
	ErrNone     = 0
	ErrInvalid  = 1
	ErrRange    = 2
	ErrLimit    = 3
	ErrNotFound = 4
	ErrState    = 5
	ErrSyntax   = 6
)

const (
	Cards   = 52
	MaxHand = 13
)

const (
	suitCount = 4
	rankCount = 13
)

// The letters stand in the order of the numbers, so that an index is a suit or a rank.
const (
	suitLetters = "CDHS"
	rankLetters = "23456789TJQKA"
)

// playingCard is the number of a card. Only valid numbers have a suit, a rank and a text: callers
// ask isCard first.
type playingCard int64

func (c playingCard) isCard() bool { return c >= 0 && c < Cards }

func (c playingCard) suit() int64 { return int64(c) / rankCount }

func (c playingCard) rank() int64 { return int64(c) % rankCount }

func (c playingCard) text() string {
	return string([]byte{suitLetters[c.suit()], rankLetters[c.rank()]})
}

// isCardList reports whether a list of any length is a strictly increasing list of cards.
func isCardList(list []int64) bool {
	for i, card := range list {
		if !playingCard(card).isCard() || i > 0 && card <= list[i-1] {
			return false
		}
	}
	return true
}

// CardOf returns the card with a suit and a rank. It returns -1 if suit is not in 0..3 or rank is
// not in 0..12.
func CardOf(suit int64, rank int64) int64 {
	if suit < 0 || suit >= suitCount || rank < 0 || rank >= rankCount {
		return -1
	}
	return rankCount*suit + rank
}

// SuitOf returns the suit of a card, or -1 if card is not a card.
func SuitOf(card int64) int64 {
	c := playingCard(card)
	if !c.isCard() {
		return -1
	}
	return c.suit()
}

// RankOf returns the rank of a card, or -1 if card is not a card.
func RankOf(card int64) int64 {
	c := playingCard(card)
	if !c.isCard() {
		return -1
	}
	return c.rank()
}

// CardText returns the text of a card, two bytes: C, D, H or S for the suit and 2 to 9, T, J, Q,
// K or A for the rank. It returns the empty string if card is not a card.
func CardText(card int64) string {
	c := playingCard(card)
	if !c.isCard() {
		return ""
	}
	return c.text()
}

// ReadCard returns the card with the text s, and true. It returns 0 and false if there is none.
func ReadCard(s string) (int64, bool) {
	suit, rank := -1, -1
reading:
	for i := range len(s) {
		switch i {
		case 0:
			suit = strings.IndexByte(suitLetters, s[i])
		case 1:
			rank = strings.IndexByte(rankLetters, s[i])
		default:
			// No card has a third byte, whatever the first two say.
			rank = -1
			break reading
		}
	}
	card := CardOf(int64(suit), int64(rank))
	if card < 0 {
		return 0, false
	}
	return card, true
}

// IsHand reports whether cards is a hand.
func IsHand(cards []int64) bool { return len(cards) <= MaxHand && isCardList(cards) }

// CardsOfSuit returns the cards of a hand that have a suit, in order. It returns nil if hand is
// not a hand or suit is not in 0..3.
func CardsOfSuit(hand []int64, suit int64) []int64 {
	if !IsHand(hand) || suit < 0 || suit >= suitCount {
		return nil
	}
	var found []int64
	for _, card := range hand {
		if playingCard(card).suit() == suit {
			found = append(found, card)
		}
	}
	return found
}

// HandWith returns the hand with one card more, and ErrNone. Errors, in this order: ErrInvalid if
// hand is not a hand; ErrRange if card is not a card; ErrState if the hand has this card;
// ErrLimit if it has MaxHand cards.
func HandWith(hand []int64, card int64) ([]int64, int64) {
	if !IsHand(hand) {
		return nil, ErrInvalid
	}
	if !playingCard(card).isCard() {
		return nil, ErrRange
	}
	place, held := slices.BinarySearch(hand, card)
	if held {
		return nil, ErrState
	}
	if len(hand) == MaxHand {
		return nil, ErrLimit
	}
	return slices.Concat(hand[:place], []int64{card}, hand[place:]), ErrNone
}

// HandWithout returns the hand without a card, and ErrNone. Errors, in this order: ErrInvalid if
// hand is not a hand; ErrNotFound if it does not have this card.
func HandWithout(hand []int64, card int64) ([]int64, int64) {
	if !IsHand(hand) {
		return nil, ErrInvalid
	}
	place, held := slices.BinarySearch(hand, card)
	if !held {
		return nil, ErrNotFound
	}
	return slices.Concat(hand[:place], hand[place+1:]), ErrNone
}
