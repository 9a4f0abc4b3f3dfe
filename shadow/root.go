package shadow

import (
	"slices"

	"aumbry/api"
	"aumbry/bits"
	"aumbry/block"
	"aumbry/disk"
	"aumbry/pages"
)

// The kinds of blocks.
const (
	kindRoot = 1
	kindPart = 2
	kindPage = 3
)

// magic is what a root's body begins with.
const magic = "aum1"

// rootSize is how many bytes a root's body has ahead of the meta.
const rootSize = len(magic) + 4 + 2*pages.Parts

// root of a space: what is published.
type root struct {
	epoch uint32
	parts [pages.Parts]int // the sectors of the parts, 0 of those that are empty
	pages *pages.Map
	meta  []byte
}

// body is the body of a root's block.
func (r *root) body() []byte {
	b := []byte(magic)
	for i := range 4 {
		b = append(b, byte(r.epoch>>(8*i)))
	}
	for _, sector := range r.parts {
		b = append(b, byte(sector), byte(sector>>8))
	}
	return append(b, r.meta...)
}

// write publishes a root: what it leads to lasts already.
func (r *root) write(d *disk.Disk) api.Errno {
	b, e := block.Seal(kindRoot, r.body())
	if e != api.OK {
		return e
	}
	if e := d.Write(int(r.epoch%2), b); e != api.OK {
		return e
	}
	return d.Barrier()
}

// newest is the root of the higher epoch, of those that a disk has.
func newest(d *disk.Disk) (root, bool) {
	var best root
	for sector := range 2 {
		if r, ok := readRoot(d, sector); ok && r.epoch > best.epoch {
			best = r
		}
	}
	return best, best.epoch > 0
}

// readRoot reads a root, of which is not known yet whether it may be.
func readRoot(d *disk.Disk, sector int) (root, bool) {
	body, ok := readBlock(d, sector, kindRoot)
	if !ok || len(body) < rootSize || string(body[:len(magic)]) != magic {
		return root{}, false
	}
	r := root{pages: pages.New(), meta: slices.Clone(body[rootSize:])}
	at := len(magic)
	for i := range 4 {
		r.epoch |= uint32(body[at+i]) << (8 * i)
	}
	at += 4
	for i := range r.parts {
		r.parts[i] = int(body[at+2*i]) | int(body[at+2*i+1])<<8
	}
	return r, r.epoch > 0 && int(r.epoch%2) == sector
}

// readBlock reads the body of a sector of a kind.
func readBlock(d *disk.Disk, sector int, kind uint8) ([]byte, bool) {
	b, e := d.Read(sector)
	if e != api.OK {
		return nil, false
	}
	is, body, e := block.Open(b)
	return body, e == api.OK && is == kind
}

// load reads the map of a root, and says whether the root may be.
func (r *root) load(d *disk.Disk) bool {
	if len(r.meta) > MaxMeta {
		return false
	}
	taken, _ := bits.New(d.Sectors())
	take := func(sector int) bool { return sector >= firstAt && taken.Set(sector) }
	for i, sector := range r.parts {
		if sector == 0 {
			continue
		}
		body, ok := readBlock(d, sector, kindPart)
		if !take(sector) || !ok || len(body) == 0 || !r.pages.Lay(i, body) {
			return false
		}
	}
	for _, sector := range r.pages.Sectors() {
		if _, ok := readBlock(d, sector, kindPage); !take(sector) || !ok {
			return false
		}
	}
	return true
}
