package mbr

import (
	"iter"
	"slices"

	"starfish/api"
	"starfish/field"
	"starfish/poly"
	"starfish/symbols"
	"starfish/welch"
)

// Decode returns the message for which at most t of the shares are wrong, and the nodes, ascending, whose shares are; ErrArg if the arguments don't fit, ErrFew if there are fewer shares than K plus twice t, ErrLost if there is no such message.
func (c *Code) Decode(shares []api.Symbols, t int) ([]byte, []int, api.Errno) {
	if c.isNone() {
		return nil, nil, api.ErrNil
	}
	if t < 0 || !symbols.Valid(shares, c.n, c.d) {
		return nil, nil, api.ErrArg
	}
	if len(shares) < c.k || t > (len(shares)-c.k)/2 { // halved, since twice t could be beyond an int
		return nil, nil, api.ErrFew
	}
	r := reading{code: c, trusted: shares, most: t}
	for range c.k {
		r.rows = append(r.rows, make([]byte, c.d))
	}
	for col, ys := range r.columns() {
		if e := r.decode(col, ys); e != api.OK {
			goto lost
		}
	}
	slices.Sort(r.wrong)
	return r.message(), r.wrong, api.OK
lost:
	return nil, nil, api.ErrLost
}

// reading is what was found out of shares by the columns that were decoded.
type reading struct {
	code    *Code
	trusted []api.Symbols // the shares, without those that turned out to be wrong
	wrong   []int         // the nodes of these
	most    int           // how many may be wrong in all
	rows    [][]byte      // the first K ones of the matrix of the message, from their diagonals on, as far as they are known; 0 elsewhere
}

// columns visits the columns of the trusted shares, the last one first, each with its index. Shares that turn out to be wrong are left away from then on.
func (r *reading) columns() iter.Seq2[int, []byte] {
	return func(yield func(int, []byte) bool) {
		for col := r.code.d - 1; col >= 0; col-- {
			var ys []byte
			for _, share := range r.trusted {
				ys = append(ys, share.Data[col])
			}
			if !yield(col, ys) {
				return
			}
		}
	}
}

// decode finds the entries of a column of the matrix down to its diagonal, or to the last of the first K rows, and which shares are wrong; ErrLost if there are too many.
//
// The symbols are the values of the column as a polynomial. The matrix is symmetric, so what is below the diagonal is known from the columns on the right. Whatever is wrong for the only polynomial that is near enough is wrong for each message for which at most t shares are; so it need not be decoded any more.
func (r *reading) decode(col int, ys []byte) api.Errno {
	c := r.code
	size := min(col+1, c.k)
	below := make([]byte, c.d)
	if col < c.k {
		copy(below[size:], r.rows[col][size:])
	}
	var nodes []int
	var rest []byte
	for i, share := range r.trusted {
		nodes = append(nodes, share.Node)
		rest = append(rest, field.Add(ys[i], poly.At(c.field, below, c.xs[share.Node])))
	}
	column, wrong, e := welch.Decode(c.polynomials(size), nodes, rest, r.most-len(r.wrong))
	if e != api.OK {
		return e
	}
	for i, entry := range column {
		r.rows[i][col] = entry
	}
	r.leave(wrong)
	return api.OK
}

// leave notes that the shares of these nodes are wrong.
func (r *reading) leave(nodes []int) {
	if len(nodes) == 0 {
		return
	}
	r.wrong = append(r.wrong, nodes...)
	r.trusted = slices.DeleteFunc(slices.Clone(r.trusted), func(share api.Symbols) bool { return slices.Contains(nodes, share.Node) })
}

// message returns the message whose matrix has the rows.
func (r *reading) message() []byte {
	var square, right []byte
	for i, row := range r.rows {
		square, right = append(square, row[i:r.code.k]...), append(right, row[r.code.k:]...)
	}
	return append(square, right...)
}
