package bench

import (
	"bytes"
	"strconv"
	"strings"

	"penumbra/api"
	"penumbra/bound"
	"penumbra/closed"
	"penumbra/dir"
	"penumbra/pack"
	"penumbra/peel"
	"penumbra/phantom"
	"penumbra/scan"
	"penumbra/torus"
	"penumbra/vault"
)

func line(word string, more ...string) string {
	return strings.Join(append([]string{word}, more...), " ") + "\n"
}

// number takes a whole one.
func number(v complex128) string { return part(real(v)) + "," + part(imag(v)) }

// part: of 64 bits, since a mass or a moment may have more than 32.
func part(f float64) string { return strconv.FormatInt(int64(f), 10) }

func lineOf(word string, numbers []complex128) string {
	words := make([]string, len(numbers))
	for i, v := range numbers {
		words[i] = number(v)
	}
	return line(word, words...)
}

func (d *desk) mass() (string, api.Errno) {
	sum, _ := phantom.Mass(d.thing)
	return line("mass", number(sum)), api.OK
}

func (d *desk) moment() (string, api.Errno) {
	mx, my, _ := closed.Moment(d.thing)
	return line("moment", number(mx), number(my)), api.OK
}

func (d *desk) see(n []int) (string, api.Errno) {
	along, err := dir.Normal(n[0], n[1])
	if err != api.OK {
		return "", err
	}
	seen, _ := closed.Project(d.thing, along)
	return lineOf("bins", seen.Bins), api.OK
}

func (d *desk) katz() (string, api.Errno) {
	dirs := d.present()
	open, _ := peel.Left(d.thing.N, dirs)
	enough := "no"
	if all, _ := dir.Katz(d.thing.N, dirs); all {
		enough = "yes"
	}
	return line("katz", enough, strconv.Itoa(open)), api.OK
}

func (d *desk) solve() (string, api.Errno) {
	report, _ := scan.Run(d.thing, api.Plan{Dirs: d.dirs, Missing: d.missing, Workers: 1})
	if report.Open > 0 {
		return line("few", strconv.Itoa(report.Open)), api.OK
	}
	return rows(report.Grid), api.OK
}

func rows(g api.Grid) string {
	var text strings.Builder
	text.WriteString(line("grid", strconv.Itoa(g.N)))
	for y := range g.N {
		text.WriteString(lineOf("row", g.Cells[y*g.N:(y+1)*g.N]))
	}
	return text.String()
}

func (d *desk) width() (string, api.Errno) {
	low, high, err := bound.Wide(d.thing.N)
	if err != api.OK {
		return "", err
	}
	seen, _ := closed.All(d.thing, d.present())
	low, high, err = bound.Run(d.thing.N, seen.Projs, low, high)
	if err != api.OK {
		return "", err
	}
	certain := 0
	for _, is := range bound.Certain(low, high) {
		if is {
			certain++
		}
	}
	return line("width", strconv.Itoa(bound.Width(low, high)), strconv.Itoa(certain)), api.OK
}

func (d *desk) prove(n []int) (string, api.Errno) {
	far, err := torus.Prove(d.raster(), n[0], n[1])
	if err != api.OK {
		return "", err
	}
	if most, _ := torus.Bound(d.thing.N); far <= most {
		return line("proved"), api.OK
	}
	return line("beyond"), api.OK
}

func (d *desk) pack() (string, api.Errno) {
	raster := d.raster()
	way, _ := pack.Way(raster)
	packed, _ := pack.Pack(raster)
	return line("pack", strconv.Itoa(way), strconv.Itoa(len(packed))), api.OK
}

func (d *desk) keep() (string, api.Errno) {
	file, err := vault.Add(d.file, d.raster())
	if err != api.OK {
		return "", err
	}
	d.file = file
	count, length := vault.Cut(file)
	return line("slices", strconv.Itoa(count), strconv.Itoa(length)), api.OK
}

// same: two fields have the same bits just if they are packed as the same bytes.
func (d *desk) same(n []int) (string, api.Errno) {
	slice, err := vault.Get(d.file, n[0])
	if err != api.OK {
		return "", err
	}
	kept, _ := pack.Pack(slice)
	now, _ := pack.Pack(d.raster())
	if bytes.Equal(kept, now) {
		return line("yes"), api.OK
	}
	return line("no"), api.OK
}
