package msr

import (
	"bytes"
	"slices"

	"starfish/api"
	"starfish/field"
	"starfish/matrix"
	"starfish/poly"
	"starfish/symbols"
	"starfish/welch"
)

// stored is what a place stores, or is said to store.
type stored struct {
	place int
	share []byte
}

// Decode returns the message for which at most t of the shares are wrong, and the nodes, ascending, whose shares are; ErrArg if the arguments don't fit, ErrFew if there are fewer shares than K plus twice t, ErrLost if there is no such message.
func (c *Code) Decode(shares []api.Symbols, t int) ([]byte, []int, api.Errno) {
	if c.isNone() {
		return nil, nil, api.ErrNil
	}
	if t < 0 || !symbols.Valid(shares, c.n, c.alpha) {
		return nil, nil, api.ErrArg
	}
	if len(shares) < c.k || t > (len(shares)-c.k)/2 { // halved, since twice t could be beyond an int
		return nil, nil, api.ErrFew
	}
	all := c.virtualOnes()
	for _, one := range shares {
		all = append(all, stored{c.virtual + one.Node, one.Data})
	}
	if msg, wrong, ok := c.message(all, nil, t); ok {
		return msg, wrong, api.OK
	}
	return c.search(all, t)
}

// search returns the message for which at most t of the places store something else, and the nodes of these; ErrLost if there is none.
//
// If there is one, the row of each right place can be decoded, and accuses only wrong places. It spares a wrong one only at the Alpha - 1 points at most where the error of that, as a polynomial, is 0; and there are at least Alpha + 1 + t right places. So more than t right places, even without the last of them, accuse each wrong place, while only wrong ones, at most t, accuse a right one: at the last right place all wrong ones are known, if not before.
func (c *Code) search(all []stored, t int) ([]byte, []int, api.Errno) {
	var accusers [api.MaxNodes]int // of each place
rows:
	for _, one := range all {
		sure := above(accusers[:], t)
		if !c.mayBeWrong(sure, t) {
			break rows
		}
		_, accused, e := c.row(one, without(all, append(sure, one.place)), t-len(sure))
		if e != api.OK {
			accusers[one.place] = t + 1 // only a wrong place has such a row
			continue rows
		}
		if msg, wrong, ok := c.message(all, append(sure, accused...), t); ok { // mostly the first right place accuses all wrong ones
			return msg, wrong, api.OK
		}
		for _, place := range accused {
			accusers[place]++
		}
	}
	return nil, nil, api.ErrLost
}

// message returns the message that the first places determine that are not accused, the nodes, ascending, whose shares are wrong for it, and whether at most t are; false also if not all that are accused may be wrong.
func (c *Code) message(all []stored, accused []int, t int) ([]byte, []int, bool) {
	if !c.mayBeWrong(accused, t) {
		return nil, nil, false
	}
	shares := c.shares(c.matrices(without(all, accused)[:c.alpha+1]))
	var wrong []int
	for _, one := range all[c.virtual:] {
		if node := one.place - c.virtual; !bytes.Equal(one.share, shares[node]) {
			wrong = append(wrong, node)
		}
	}
	if len(wrong) > t {
		return nil, nil, false
	}
	slices.Sort(wrong)
	return slices.Concat(shares[:c.k]...), wrong, true
}

// mayBeWrong reports whether all of these places may be wrong: at most t of them, none of them virtual.
func (c *Code) mayBeWrong(places []int, t int) bool {
	return len(places) <= t && !slices.ContainsFunc(places, func(place int) bool { return place < c.virtual })
}

// shares returns the shares of the nodes for the two symmetric matrices, which are one below the other.
func (c *Code) shares(both matrix.Matrix) [][]byte {
	product, _ := matrix.Mul(c.field, c.powers, both)
	var all [][]byte
	for share := range slices.Chunk(product.D[c.virtual*c.alpha:], c.alpha) {
		all = append(all, bytes.Clone(share))
	}
	return all
}

// matrices returns the two symmetric matrices, one below the other, for which these places store this. They are Alpha and one, for which there are such matrices, whatever they store.
func (c *Code) matrices(all []stored) matrix.Matrix {
	firsts, seconds := make([][]byte, len(all)), make([][]byte, len(all)) // at a place: phi times each of the matrices
	for i, one := range all {
		firsts[i], _, _ = c.row(one, without(all, []int{one.place}), 0)
		seconds[i] = c.second(one, firsts[i])
	}
	decode := c.decoder(all, 0)
	both := matrix.Matrix{Rows: 2 * c.alpha, Cols: c.alpha}
	for _, rows := range [][][]byte{firsts, seconds} {
		for col := range c.alpha {
			column, _, _ := decode(columnOf(rows, col))
			both.D = append(both.D, column...) // as a row, since the matrix is symmetric
		}
	}
	return both
}

// row returns phi of a place, times the first matrix, and which of the others tell something else, which may be t; ErrLost if these are more.
//
// As a polynomial, what a place stores has at the point of another one the value p + lambda q, where p and q are the products of phi of the one, the first or second matrix, and phi of the other. With the places exchanged, p and q are the same, but lambda is not.
func (c *Code) row(one stored, others []stored, t int) ([]byte, []int, api.Errno) {
	lambda := c.lambda(one.place)
	values := make([]byte, len(others))
	for i, other := range others {
		here := poly.At(c.field, one.share, c.xs[other.place])
		there := poly.At(c.field, other.share, c.xs[one.place])
		q, _ := c.field.Div(field.Add(here, there), field.Add(lambda, c.lambda(other.place)))
		values[i] = field.Add(here, c.field.Mul(lambda, q))
	}
	return c.decoder(others, t)(values)
}

// second returns phi of a place, times the second matrix, from that times the first one.
func (c *Code) second(one stored, first []byte) []byte {
	row := make([]byte, c.alpha)
	for i := range row {
		row[i], _ = c.field.Div(field.Add(one.share[i], first[i]), c.lambda(one.place))
	}
	return row
}

// decoder returns what decodes values at these places: it returns the polynomial of Alpha coefficients for which at most t values are wrong, and the places of these.
func (c *Code) decoder(all []stored, t int) func([]byte) ([]byte, []int, api.Errno) {
	var places []int
	for _, one := range all {
		places = append(places, one.place)
	}
	return func(values []byte) ([]byte, []int, api.Errno) {
		return welch.Decode(c.ofPlaces, places, values, t)
	}
}

// virtualOnes returns the virtual places, which store zeros.
func (c *Code) virtualOnes() []stored {
	var all []stored
	for place := range c.virtual {
		all = append(all, stored{place, make([]byte, c.alpha)})
	}
	return all
}

// columnOf returns the bytes of all rows at one index.
func columnOf(rows [][]byte, col int) []byte {
	var column []byte
	for _, row := range rows {
		column = append(column, row[col])
	}
	return column
}

// without returns what all but these places store.
func without(all []stored, places []int) []stored {
	return slices.DeleteFunc(slices.Clone(all), func(one stored) bool { return slices.Contains(places, one.place) })
}

// above returns the indices, ascending, of the counts above t.
func above(counts []int, t int) []int {
	var at []int
	for i, count := range counts {
		if count > t {
			at = append(at, i)
		}
	}
	return at
}
