"""Promise 3: mo_ahead."""

import inspect
import itertools
import unittest
from fractions import Fraction
from math import floor

from newandmoving.points import mo_ahead
from tests.told import EDGE_POINTS, NOT_POINTS, Unchanging, at, long_words, told

LEAST_T = -2 ** 31
GREATEST_T = 2 ** 31 - 1


def ahead(t, a, b):
    """What is answered for a t and two points with signs."""
    return mo_ahead(t % 2 ** 32, told(a, b))


def says(x, y):
    return [0] + long_words(x, y)


def said_by_the_document(t, a, b):
    between = b[0] - a[0] if b[0] > a[0] else 1
    places = []
    for k in (1, 2):
        going = Fraction(256 * (b[k] - a[k]) * (t - a[0]), between)
        places.append(256 * a[k] + floor(going + Fraction(1, 2)))
    return says(*places)


class Ordinary(unittest.TestCase):
    A = (10, 100, 50, 0)
    B = (14, 108, 38, 0)

    def test_behind_both(self):
        self.assertEqual(ahead(20, self.A, self.B), [0, 256 * 120, 256 * 20])

    def test_ahead_of_both(self):
        self.assertEqual(ahead(3, self.A, self.B), [0, 256 * 86, 256 * 71])

    def test_between_them(self):
        self.assertEqual(ahead(11, self.A, self.B), [0, 256 * 102, 256 * 47])
        self.assertEqual(ahead(12, self.A, self.B), [0, 256 * 104, 256 * 44])

    def test_the_time_of_the_first(self):
        self.assertEqual(ahead(10, self.A, self.B), [0, 256 * 100, 256 * 50])

    def test_the_time_of_the_second(self):
        self.assertEqual(ahead(14, self.A, self.B), [0, 256 * 108, 256 * 38])

    def test_parts_of_a_place(self):
        # One place in 3 times: 85 and a third of 256ths in one, 170 and two thirds in two.
        self.assertEqual(ahead(1, (0, 0, 0, 0), (3, 1, 2, 0)), [0, 85, 171])
        self.assertEqual(ahead(2, (0, 0, 0, 0), (3, 1, 2, 0)), [0, 171, 341])

    def test_one_that_stays(self):
        for t in (LEAST_T, -1, 0, 5, 9, 65536, GREATEST_T):
            self.assertEqual(ahead(t, (5, 7, -8, 0), (9, 7, -8, 0)), says(256 * 7, -256 * 8), t)

    def test_brightness_plays_no_part(self):
        self.assertEqual(ahead(2, (0, 0, 0, -65536), (1, 1, 2, 65536)), [0, 512, 1024])

    def test_against_the_words_of_the_document(self):
        points = [(0, 0, 0, 0), (0, 3, -3, 0), (7, -1, 1, 0), (512, 1, -1, 0), (65535, -32768, 32768, 0)]
        times = (LEAST_T, -65536, -513, -3, -1, 0, 1, 2, 7, 300, 512, 65535, 65537, GREATEST_T)
        for a, b, t in itertools.product(points, points, times):
            self.assertEqual(ahead(t, a, b), said_by_the_document(t, a, b), (t, a, b))


class Edges(unittest.TestCase):
    def test_a_t_below_0(self):
        self.assertEqual(ahead(-1, (0, 10, 20, 0), (1, 12, 19, 0)), [0, 256 * 8, 256 * 21])
        self.assertEqual(ahead(-7, (3, 10, 0, 0), (5, 12, 2, 0)), says(0, -2560))

    def test_least_and_greatest_t(self):
        a = (0, 0, 0, 0)
        b = (1, 1, -1, 0)
        self.assertEqual(ahead(LEAST_T, a, b), says(-2 ** 39, 2 ** 39))
        self.assertEqual(ahead(GREATEST_T, a, b), says(2 ** 39 - 256, 256 - 2 ** 39))
        self.assertEqual(mo_ahead(2 ** 31, told(a, b)), says(-2 ** 39, 2 ** 39))
        self.assertEqual(mo_ahead(2 ** 32 - 1, told(a, b)), says(-256, 256))

    def test_no_t_is_refused(self):
        for t in (0, 65535, 65536, 65537, 2 ** 31 - 1, 2 ** 31, 2 ** 32 - 65537, 2 ** 32 - 1):
            self.assertEqual(mo_ahead(t, told(at(1, 2), at(1, 2))), [0, 256, 512], t)

    def test_two_at_the_same_time_by_1(self):
        a = (5, 10, 20, 0)
        b = (5, 13, 18, 0)
        self.assertEqual(ahead(5, a, b), [0, 2560, 5120])
        self.assertEqual(ahead(6, a, b), [0, 256 * 13, 256 * 18])
        self.assertEqual(ahead(7, a, b), [0, 256 * 16, 256 * 16])
        self.assertEqual(ahead(4, a, b), [0, 256 * 7, 256 * 22])
        self.assertEqual(ahead(9, a, a), [0, 2560, 5120])

    def test_the_second_is_earlier_by_1(self):
        a = (5, 10, 20, 0)
        for t in (0, 1, 4):
            b = (t, 13, 18, 0)
            self.assertEqual(ahead(5, a, b), [0, 2560, 5120], t)
            self.assertEqual(ahead(6, a, b), [0, 256 * 13, 256 * 18], t)
            self.assertEqual(ahead(7, a, b), [0, 256 * 16, 256 * 16], t)
            self.assertEqual(ahead(4, a, b), [0, 256 * 7, 256 * 22], t)

    def test_the_second_is_later_by_1_or_2(self):
        self.assertEqual(ahead(7, (5, 0, 0, 0), (6, 3, -3, 0)), says(256 * 6, -256 * 6))
        self.assertEqual(ahead(7, (5, 0, 0, 0), (7, 3, -3, 0)), says(256 * 3, -256 * 3))

    def test_halfway_the_greater(self):
        # One place in 512 times is half a 256th in one.
        a = (1, 0, 0, 0)
        self.assertEqual(ahead(2, a, (513, 1, -1, 0)), says(1, 0))
        self.assertEqual(ahead(4, a, (513, 1, -1, 0)), says(2, -1))
        self.assertEqual(ahead(0, a, (513, 1, -1, 0)), says(0, 1))
        self.assertEqual(ahead(-2, a, (513, 1, -1, 0)), says(-1, 2))

    def test_halfway_from_another_place(self):
        self.assertEqual(ahead(1, (0, 2, -2, 0), (512, 3, -3, 0)), says(513, -512))
        self.assertEqual(ahead(1, (0, -2, 2, 0), (512, -1, 1, 0)), says(-511, 512))

    def test_beside_halfway_the_nearest(self):
        # One place in 768 times is a third of a 256th in one.
        a = (0, 0, 0, 0)
        b = (768, 1, -1, 0)
        self.assertEqual(ahead(1, a, b), says(0, 0))
        self.assertEqual(ahead(2, a, b), says(1, -1))
        self.assertEqual(ahead(4, a, b), says(1, -1))
        self.assertEqual(ahead(5, a, b), says(2, -2))

    def test_below_0_with_2_to_the_64_added(self):
        answer = mo_ahead(2, told((0, 0, 0, 0), (1, -1, -3, 0)))
        self.assertEqual(answer, [0, 18446744073709551104, 18446744073709550080])

    def test_greatest_and_least_that_a_point_may_have(self):
        for (t, x, y, brightness) in EDGE_POINTS:
            point = (t, x, y, brightness)
            self.assertEqual(ahead(t, point, at(3, 4)), says(256 * x, 256 * y), point)
            self.assertEqual(ahead(t + 1, point, point), says(256 * x, 256 * y), point)
            self.assertEqual(ahead(65535, at(3, 4), (65535, x, y, brightness)), says(256 * x, 256 * y), point)

    def test_from_corner_to_corner(self):
        a = (0, -32768, 32768, 0)
        b = (65535, 32768, -32768, 0)
        # 256 times 65536 by 65535 is 256 and a little more.
        self.assertEqual(ahead(1, a, b), says(256 - 2 ** 23, 2 ** 23 - 256))
        self.assertEqual(ahead(65535, a, b), says(2 ** 23, -2 ** 23))
        self.assertEqual(ahead(2 * 65535, a, b), says(3 * 2 ** 23, -3 * 2 ** 23))

    def test_as_far_as_it_may_be(self):
        a = (0, -32768, 32768, 0)
        b = (1, 32768, -32768, 0)
        there = 2 ** 24 * GREATEST_T - 2 ** 23
        self.assertEqual(ahead(GREATEST_T, a, b), says(there, -there))
        back = 2 ** 24 * LEAST_T - 2 ** 23
        self.assertEqual(ahead(LEAST_T, a, b), says(back, -back))
        late = (65535, -32768, 32768, 0)
        farther_back = 2 ** 24 * (LEAST_T - 65535) - 2 ** 23
        self.assertEqual(ahead(LEAST_T, late, b), says(farther_back, -farther_back))


class Refused(unittest.TestCase):
    def test_a_point_not_as_told(self):
        good = at(1, 1)
        for bad in NOT_POINTS:
            for t in (0, 5, GREATEST_T, LEAST_T):
                self.assertEqual(ahead(t, bad, good), [-3], bad)
                self.assertEqual(ahead(t, good, bad), [-3], bad)
                self.assertEqual(ahead(t, bad, bad), [-3], bad)


class Interface(unittest.TestCase):
    def test_arguments(self):
        self.assertEqual(str(inspect.signature(mo_ahead)), "(t, ab)")

    def test_gives_back_a_list_of_ints(self):
        for answer in (ahead(3, at(0, 0), at(9, -9)), ahead(0, at(0, 0), at(0, 0)), ahead(0, at(0, 0), at(32769, 0))):
            self.assertIs(type(answer), list)
            self.assertEqual({type(number) for number in answer}, {int})

    def test_what_is_handed_in_is_not_changed(self):
        for ab in (told((0, -5, 3, -7), (9, 4, -4, 7)), told(at(0, 0), at(32769, 0)), told(at(-1, 0), at(-1, 0))):
            handed = Unchanging(ab)
            mo_ahead(2 ** 32 - 5, handed)
            self.assertEqual(handed, ab)

    def test_nothing_is_kept(self):
        ab = told((0, 0, 0, 0), (1, 1, 2, 0))
        first = mo_ahead(3, ab)
        first.append(77)
        mo_ahead(3, told(at(32769, 0), at(0, 0)))
        mo_ahead(9, told((0, 5, 5, 0), (2, 8, 8, 0)))
        self.assertEqual(mo_ahead(3, ab), [0, 768, 1536])
        self.assertEqual(mo_ahead(0, ab), [0, 0, 0])


if __name__ == "__main__":
    unittest.main()
