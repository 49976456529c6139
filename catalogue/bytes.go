package catalogue

import (
	"math"

	"fretwork/api"
	"fretwork/decode"
	"fretwork/fours"
)

// Import answers the catalogue whose bytes b are, made for so many classes.
func Import(most int, b []byte) (*Cat, api.Errno) {
	if most < 0 || most > api.MaxClasses {
		return nil, api.ErrArg
	}
	n, b, ok := fours.Get(b)
	if !ok {
		return nil, api.ErrCat
	}
	c := made(most)
	for range n {
		var x class
		x, b, ok = read(b)
		if _, twice := c.numbers[x.code]; !ok || twice {
			return nil, api.ErrCat
		}
		c.add(x)
	}
	if len(b) > 0 {
		return nil, api.ErrCat
	}
	if n > most {
		return nil, api.ErrFull
	}
	return c, api.OK
}

// Export answers the catalogue's bytes.
func (c *Cat) Export() []byte {
	if !c.right() {
		return nil
	}
	out := fours.Put(nil, len(c.classes))
	for _, x := range c.classes {
		out = fours.Put(fours.Put(out, x.puts), len(x.code))
		out = append(out, x.code...)
	}
	return out
}

// read reads the class that b begins with, and tells what stands behind it.
func read(b []byte) (class, []byte, bool) {
	puts, b, ok := fours.Get(b)
	if !ok || puts < 1 || puts > math.MaxInt32 {
		return class{}, nil, false
	}
	size, b, ok := fours.Get(b)
	if !ok || size > len(b) {
		return class{}, nil, false
	}
	if _, e := decode.Decode(b[:size]); e != api.OK {
		return class{}, nil, false
	}
	return class{string(b[:size]), puts}, b[size:], true
}
