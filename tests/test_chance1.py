"""Promise 6: mo_chance1."""

import inspect
import itertools
import unittest
from fractions import Fraction
from math import floor

from newandmoving.points import mo_chance1

GREATEST = 65535


def chance_by_the_document(n, r, w, h):
    side = 2 * (r & 1023) + 1
    share = Fraction((n & 4095) * side ** 2, (w or 1) * (h or 1))
    return [65536 if share >= 1 else floor(65536 * share)]


class Ordinary(unittest.TestCase):
    def test_some_points_in_a_field(self):
        # 20 times 5 times 5 is 500, by a million.
        self.assertEqual(mo_chance1(20, 2, 1000, 1000), [32])
        self.assertEqual(mo_chance1(100, 3, 640, 480), [1045])

    def test_an_even_quotient(self):
        self.assertEqual(mo_chance1(1, 0, 2, 1), [32768])
        self.assertEqual(mo_chance1(1, 0, 16, 16), [256])
        self.assertEqual(mo_chance1(7, 1, 256, 256), [63])

    def test_rounded_down(self):
        # 21845 and a third, 43690 and two thirds, 4032 and almost one more.
        self.assertEqual(mo_chance1(1, 0, 3, 1), [21845])
        self.assertEqual(mo_chance1(2, 0, 3, 1), [43690])
        self.assertEqual(mo_chance1(4, 0, 5, 13), [4032])

    def test_w_and_h_count_alike(self):
        for w, h in ((1, 7), (300, 20), (GREATEST, 2), (0, 90)):
            self.assertEqual(mo_chance1(3, 1, w, h), mo_chance1(3, 1, h, w), (w, h))

    def test_against_the_words_of_the_document(self):
        ns = (0, 1, 2, 50, 4094, 4095, 4096, 4097, 8191, 8192, 65534, 65535)
        rs = (0, 1, 2, 30, 1022, 1023, 1024, 1025, 2047, 2048, 65534, 65535)
        sides = (0, 1, 2, 3, 255, 256, 1000, 32768, 65534, 65535)
        for n, r, w, h in itertools.product(ns, rs, sides, sides):
            self.assertEqual(mo_chance1(n, r, w, h), chance_by_the_document(n, r, w, h), (n, r, w, h))


class Edges(unittest.TestCase):
    def test_all_0(self):
        self.assertEqual(mo_chance1(0, 0, 0, 0), [0])

    def test_all_65535(self):
        # 4095 times 2047 times 2047 is about four times 65535 times 65535.
        self.assertEqual(mo_chance1(GREATEST, GREATEST, GREATEST, GREATEST), [65536])

    def test_n_of_0(self):
        for r, w, h in itertools.product((0, 1023, GREATEST), (0, 1, GREATEST), (0, 1, GREATEST)):
            self.assertEqual(mo_chance1(0, r, w, h), [0], (r, w, h))

    def test_n_modulo_4096(self):
        # In a field of 2^20, each point is a sixteenth of a 65536th.
        self.assertEqual(mo_chance1(4095, 0, 1024, 1024), [255])
        self.assertEqual(mo_chance1(4096, 0, 1024, 1024), [0])
        self.assertEqual(mo_chance1(4097, 0, 256, 256), [1])
        self.assertEqual(mo_chance1(8191, 0, 1024, 1024), [255])
        self.assertEqual(mo_chance1(8192, 0, 1024, 1024), [0])
        self.assertEqual(mo_chance1(GREATEST, 0, 1024, 1024), [255])

    def test_r_of_0(self):
        self.assertEqual(mo_chance1(1, 0, 256, 256), [1])

    def test_r_modulo_1024(self):
        # 2047 times 2047, by 2^28, in 65536ths: a little above 1023.
        self.assertEqual(mo_chance1(1, 1023, 16384, 16384), [1023])
        self.assertEqual(mo_chance1(1, 1024, 16384, 16384), [0])
        self.assertEqual(mo_chance1(1, 1024, 256, 256), [1])
        self.assertEqual(mo_chance1(1, 1025, 256, 256), [9])
        self.assertEqual(mo_chance1(1, 2047, 16384, 16384), [1023])
        self.assertEqual(mo_chance1(1, 2048, 256, 256), [1])
        self.assertEqual(mo_chance1(1, GREATEST, 16384, 16384), [1023])

    def test_w_or_h_of_0_is_1(self):
        self.assertEqual(mo_chance1(1, 0, 0, 4), [16384])
        self.assertEqual(mo_chance1(1, 0, 4, 0), [16384])
        self.assertEqual(mo_chance1(1, 0, 1, 4), [16384])
        self.assertEqual(mo_chance1(1, 0, 0, 0), [65536])
        self.assertEqual(mo_chance1(1, 0, 0, GREATEST), [1])
        self.assertEqual(mo_chance1(1, 0, GREATEST, 0), [1])

    def test_w_and_h_of_65535(self):
        self.assertEqual(mo_chance1(1, 0, GREATEST, GREATEST), [0])
        self.assertEqual(mo_chance1(1, 1023, GREATEST, GREATEST), [63])
        self.assertEqual(mo_chance1(4095, 0, GREATEST, GREATEST), [0])
        # Of 65535 times 65535, a 65536th is a little more than 65534: 2621 times 25 is less, 2622 times 25 more.
        self.assertEqual(mo_chance1(2621, 2, GREATEST, GREATEST), [0])
        self.assertEqual(mo_chance1(2622, 2, GREATEST, GREATEST), [1])

    def test_65536_and_just_below(self):
        # 2775 times 25 is 69375: one less than 256 times 271, just 375 times 185.
        self.assertEqual(mo_chance1(2775, 2, 256, 271), [65535])
        self.assertEqual(mo_chance1(2775, 2, 375, 185), [65536])
        self.assertEqual(mo_chance1(2776, 2, 256, 271), [65536])

    def test_65536_where_the_field_is_full(self):
        for n, w, h in ((1, 1, 1), (6, 2, 3), (4095, 4095, 1), (4095, 63, 65)):
            self.assertEqual(mo_chance1(n, 0, w, h), [65536], (n, w, h))
        self.assertEqual(mo_chance1(1, 1023, 2047, 2047), [65536])
        self.assertEqual(mo_chance1(1, 1023, 2047, 2048), [65504])

    def test_never_above_65536(self):
        self.assertEqual(mo_chance1(2, 0, 1, 1), [65536])
        self.assertEqual(mo_chance1(3, 0, 1, 2), [65536])
        self.assertEqual(mo_chance1(4095, 1023, 1, 1), [65536])
        self.assertEqual(mo_chance1(4095, 1023, 0, 0), [65536])

    def test_just_above_is_65536(self):
        # 4095 by 4094 would be 65552.
        self.assertEqual(mo_chance1(4095, 0, 4094, 1), [65536])
        self.assertEqual(mo_chance1(4095, 0, 4096, 1), [65520])


class Interface(unittest.TestCase):
    def test_arguments(self):
        self.assertEqual(str(inspect.signature(mo_chance1)), "(n, r, w, h)")

    def test_gives_back_one_number_and_refuses_nothing(self):
        for numbers in itertools.product((0, 1, 1024, 4096, GREATEST), repeat=4):
            answer = mo_chance1(*numbers)
            self.assertIs(type(answer), list)
            self.assertEqual([type(number) for number in answer], [int])
            self.assertTrue(0 <= answer[0] <= 65536, numbers)

    def test_nothing_is_kept(self):
        first = mo_chance1(20, 2, 1000, 1000)
        first.append(77)
        mo_chance1(4095, 1023, 0, 0)
        mo_chance1(0, 0, GREATEST, GREATEST)
        self.assertEqual(mo_chance1(20, 2, 1000, 1000), [32])


if __name__ == "__main__":
    unittest.main()
