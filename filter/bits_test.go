package filter_test

import (
	"math"
	"testing"

	"penumbra/api"
	"penumbra/cx"
)

// P16.1: bits that were worked out by another program in another language.
func TestBitsOfWeights(t *testing.T) {
	for _, c := range []struct {
		n, k int
		want uint64
	}{
		{2, 0, 0x0000000000000000},
		{2, 1, 0x0000000000000000},
		{4, 1, 0x3fc0000000000000},
		{4, 2, 0x0000000000000000},
		{4, 3, 0x3fc0000000000000},
		{8, 1, 0x3fbb504f333f9de6},
		{8, 2, 0x3fc0000000000000},
		{8, 3, 0x3fac1e24cc824c99},
		{8, 4, 0x0000000000000000},
		{16, 1, 0x3faec835e79946a3},
		{16, 3, 0x3fc0979a7f40bfc3},
		{16, 5, 0x3fb8b15257d2d622},
		{16, 7, 0x3f910d0d559e2316},
		{16, 8, 0x0000000000000000},
		{64, 1, 0x3f8fec46d1e89293},
		{64, 5, 0x3fb2d1b7eb783b47},
		{64, 17, 0x3fbeaadbdb027612},
		{64, 31, 0x3f531b64a6b20198},
		{64, 32, 0x0000000000000000},
		{64, 63, 0x3f8fec46d1e89293},
		{256, 1, 0x3f6ffec430426686},
		{256, 65, 0x3fbfb3d12583f05f},
		{256, 127, 0x3f139581e1e468d0},
		{256, 130, 0x3f336d4828f06ff0},
		{2048, 3, 0x3f57ffdeb0b8d49d},
		{2048, 511, 0x3fc0048ab3e1369f},
		{2048, 1023, 0x3eb3b84c770a8100},
		{4096, 1, 0x3f2ffffec42c3773},
		{4096, 513, 0x3fbb5982e1bcebb3},
		{4096, 1025, 0x3fbffb6bde6936ff},
		{4096, 2047, 0x3e93bac4e13ee600},
		{4096, 2048, 0x0000000000000000},
		{4096, 2049, 0x3e93bac4e13ee600},
		{4096, 4095, 0x3f2ffffec42c3773},
	} {
		if got := math.Float64bits(weights(t, c.n, api.Soft)[c.k]); got != c.want {
			t.Errorf("length %d, at %d: %016x, not %016x", c.n, c.k, got, c.want)
		}
	}
}

// P16.1: likewise of bins.
func TestBitsOfBins(t *testing.T) {
	for _, c := range []struct {
		kind, n, k int
		want       string
	}{
		{api.Flat, 1, 0, "c049000000000000c043c5d1745d1746"},
		{api.Flat, 2, 0, "c049000000000000c043c5d1745d1746"},
		{api.Flat, 2, 1, "c045924924924925c043ba2e8ba2e8ba"},
		{api.Flat, 3, 0, "c049000000000000c043c5d1745d1746"},
		{api.Flat, 3, 1, "c045924924924925c043ba2e8ba2e8bb"},
		{api.Flat, 3, 2, "c039b6db6db6db6ec04368ba2e8ba2e9"},
		{api.Flat, 5, 0, "c049000000000000c043c5d1745d1746"},
		{api.Flat, 5, 2, "c039b6db6db6db6fc04368ba2e8ba2e9"},
		{api.Flat, 5, 4, "40446db6db6db6dcc040dd1745d1745d"},
		{api.Flat, 8, 0, "c049000000000000c043c5d1745d1746"},
		{api.Flat, 8, 4, "40446db6db6db6dcc040dd1745d1745d"},
		{api.Flat, 8, 7, "4052f6db6db6db6ec020ba2e8ba2e8b7"},
		{api.Flat, 33, 0, "c049000000000000c043c5d1745d1746"},
		{api.Flat, 33, 16, "403f000000000000c03dba2e8ba2e8ba"},
		{api.Flat, 33, 32, "4053e4924924924a4043800000000000"},
		{api.Flat, 100, 0, "c049000000000001c043c5d1745d1747"},
		{api.Flat, 100, 50, "c032492492492493c015d1745d1745ca"},
		{api.Flat, 100, 99, "40336db6db6db6dcc033ba2e8ba2e8bc"},
		{api.Flat, 1000, 0, "c048ffffffffffffc043c5d1745d1745"},
		{api.Flat, 1000, 500, "4055800000000000c03be8ba2e8ba2ec"},
		{api.Flat, 1000, 999, "403e6db6db6db6dac04368ba2e8ba2ea"},
		{api.Flat, 2048, 0, "c049000000000001c043c5d1745d1746"},
		{api.Flat, 2048, 1024, "40236db6db6db6da403bba2e8ba2e8bc"},
		{api.Flat, 2048, 2047, "c03b92492492492ac0242e8ba2e8ba34"},
		{api.Ramp, 1, 0, "c029000000000000c023c5d1745d1746"},
		{api.Ramp, 2, 0, "c01c6db6db6db6dbc013d1745d1745d2"},
		{api.Ramp, 2, 1, "c01224924924924bc013ae8ba2e8ba2e"},
		{api.Ramp, 3, 0, "c01f966f2e988b45c016b5095b50c81d"},
		{api.Ramp, 3, 1, "c005a8d6e474e81fbff80b07bc458362"},
		{api.Ramp, 3, 2, "bffd352a713d9acec015fadacfaddf63"},
		{api.Ramp, 5, 0, "c02033ba3dbad405c015786d1ba11774"},
		{api.Ramp, 5, 2, "c001e1d2bbeb880abffd9328d208e8c2"},
		{api.Ramp, 5, 4, "40250d27a522f163c01080c028c2a8be"},
		{api.Ramp, 8, 0, "c021d5cecd69e21bc014b2979a29f027"},
		{api.Ramp, 8, 4, "3fd508fd53560ba4bff20a3470352af4"},
		{api.Ramp, 8, 7, "403239468a55e6b63fe84b3e0031ce30"},
		{api.Ramp, 33, 0, "c0215ebf3e3714e2c015882c7ec25a34"},
		{api.Ramp, 33, 16, "3f5bff29ddf86c00c0273686fbf0fd18"},
		{api.Ramp, 33, 32, "4030f07bce4c2b7b4015fdf61724280c"},
		{api.Ramp, 100, 0, "c02165859dc0a24ac01584ac58bd83b4"},
		{api.Ramp, 100, 50, "c0319a0e5cc767f64019501ed7710ac4"},
		{api.Ramp, 100, 99, "40154fad42a99212bfecff0d62a16d6c"},
		{api.Ramp, 1000, 0, "c02167054f23869fc01586060707626c"},
		{api.Ramp, 1000, 500, "40314118120db394c0263cad894e1342"},
		{api.Ramp, 1000, 999, "402113ad2992a75ec0165051182259fc"},
		{api.Ramp, 2048, 0, "c021671fd8c54bcac01585edb7752210"},
		{api.Ramp, 2048, 1024, "bff1efdd4efd88224021702994ab6c7d"},
		{api.Ramp, 2048, 2047, "c00416d904ac1e943ff10215e4e17445"},
		{api.Soft, 1, 0, "00000000000000008000000000000000"},
		{api.Soft, 2, 0, "c009000000000000c003c5d1745d1746"},
		{api.Soft, 2, 1, "c005924924924926c003ba2e8ba2e8ba"},
		{api.Soft, 3, 0, "c009644397b36a32bfffb4a533a97dd1"},
		{api.Soft, 3, 1, "c00e464857ae6d0cc00c5ab40490b499"},
		{api.Soft, 3, 2, "bfe598ab280513e6bffe821b5d8dd8af"},
		{api.Soft, 5, 0, "c00d03fce2e46bfcbffd8e183e033de5"},
		{api.Soft, 5, 2, "c000b47567deaceebff9ab9fbc07887e"},
		{api.Soft, 5, 4, "40111db68b5a5780bff59b882028d461"},
		{api.Soft, 8, 0, "c01031eccab3eef5bffb3c72c985a19d"},
		{api.Soft, 8, 4, "4012946775d27836bff09f4b03f04ec1"},
		{api.Soft, 8, 7, "40088a7d90135a083fe48d6a4167efee"},
		{api.Soft, 33, 0, "c0100dddec52e2acbffe747505f638b2"},
		{api.Soft, 33, 16, "400c2bdf83f542fdc00cb47454692c67"},
		{api.Soft, 33, 32, "401ae3e3f82052ce401123797ccebb31"},
		{api.Soft, 100, 0, "c01020a930b26c3abffe6e69c3db40e6"},
		{api.Soft, 100, 50, "bfebdb1493f1fa40bff9c4aca7165968"},
		{api.Soft, 100, 99, "3ff6f727c6cb21c6c00006b24a8ed239"},
		{api.Soft, 1000, 0, "c01026262ed2ae3cbffe7491f698ef1e"},
		{api.Soft, 1000, 500, "40113c60789bd0afc006ebd7605c446c"},
		{api.Soft, 1000, 999, "400aeb20cde6ac7fc003ae8d2a71d12a"},
		{api.Soft, 2048, 0, "c010262df2e443febffe7481a6e40e48"},
		{api.Soft, 2048, 1024, "bff2e9f689b5d3423fef6a201a6e637e"},
		{api.Soft, 2048, 2047, "bff3e32c62f03c04bfb5799e9cd1f060"},
	} {
		x := make([]complex128, c.n)
		for j := range x {
			x[j] = complex(float64((j*j*37+11*j)%1009)/7-50, float64((j*j*j+5)%997)/11-40)
		}
		if got := cx.Text(filtered(t, x, c.kind)[c.k]); got != c.want {
			t.Errorf("%d bins, kind %d, at %d: %s, not %s", c.n, c.kind, c.k, got, c.want)
		}
	}
}
