package xor

import (
	"slices"

	"manometer/api"
	"manometer/bits"
)

// maxLead is the greatest number that has room in the five bits of a lead.
const maxLead = 31

// widths are how many bits changes of a step have, by how many bits 1 stand ahead of them.
var widths = [5]int{0, 14, 17, 20, 64}

// window is where among 64 bits those lie that are told of a turn: behind lead bits 0, width of them; of none that was set width is 0.
type window struct {
	lead  int
	width int
}

// trail is how many bits 0 stand behind the window.
func (w window) trail() int { return 64 - w.lead - w.width }

// holds tells whether a window was set, and nothing of x lies outside it.
func (w window) holds(x uint64) bool {
	return w.width > 0 && w.lead <= bits.Lead(x) && w.trail() <= bits.Trail(x)
}

// around is the narrowest window that holds x, which is not 0.
func around(x uint64) window {
	lead := min(bits.Lead(x), maxLead)
	return window{lead: lead, width: 64 - lead - bits.Trail(x)}
}

// lowest is n without the bits above its lowest width.
func lowest(n uint64, width int) uint64 { return n & (1<<width - 1) }

// signed is the change that n stands for in width bits: those above the half are below 0.
func signed(n uint64, width int) uint64 {
	if half := uint64(1) << width >> 1; n > half {
		return n - 1<<width
	}
	return n
}

// row is a row of bits that may be longer than a Writer takes, as MaxSamples samples may ask for more than MaxBits.
type row struct {
	*bits.Writer
	full []byte // of Writers that had no room any more
}

// lay lays the width lowest bits of n, which has no others, behind the row.
func (r *row) lay(n uint64, width int) {
	if room := api.MaxBits - r.Len(); width > room {
		width -= room
		r.Put(n>>width, room)
		r.full = append(r.full, r.Bytes()...)
		r.Writer = bits.NewWriter()
		n = lowest(n, width)
	}
	r.Put(n, width)
}

// layBytes lays all bits of b behind the row.
func (r *row) layBytes(b []byte) {
	for _, x := range b {
		r.lay(uint64(x), 8)
	}
}

// layChange lays the change of a step behind the row: a bit 1 for each width that has no room for it, and a bit 0 where a wider one would come.
func (r *row) layChange(d uint64) {
	for ones := range len(widths) {
		width := widths[ones]
		n := lowest(d, width)
		if signed(n, width) != d {
			r.lay(1, 1)
			continue
		}
		if ones < len(widths)-1 {
			r.lay(0, 1)
		}
		r.lay(n, width)
		return
	}
}

// all is the row's bits as bytes.
func (r *row) all() []byte { return slices.Concat(r.full, r.Bytes()) }

// twin is another row of the same bits.
func (r *row) twin() row { return row{Writer: r.Clone(), full: slices.Clone(r.full)} }

// pack makes s the last sample of a chunk that has room for it.
func (c *Chunk) pack(s api.Sample) {
	step := uint64(s.T) - uint64(c.last.T)
	switch c.count {
	case 0:
		c.row.layBytes(bits.PutVarint(s.T))
		c.row.lay(s.V, 64)
	case 1:
		c.row.layBytes(bits.PutUvarint(step))
		c.packTurn(s.V ^ c.last.V)
	default:
		c.row.layChange(step - c.step)
		c.packTurn(s.V ^ c.last.V)
	}
	c.count++
	c.last, c.step = s, step
}

// packTurn lays V's turn behind the others, in the window that is set, if that holds it.
func (c *Chunk) packTurn(x uint64) {
	if x == 0 {
		c.row.lay(0, 1)
		return
	}
	c.row.lay(1, 1)
	if c.window.holds(x) {
		c.row.lay(0, 1)
	} else {
		c.window = around(x)
		c.row.lay(1, 1)
		c.row.lay(uint64(c.window.lead), 5)
		c.row.lay(uint64(c.window.width%64), 6) // six bits have no 64, and 0 is no width
	}
	c.row.lay(x>>c.window.trail(), c.window.width)
}
