"""Promise 1: mo_new."""

import inspect
import itertools
import unittest

from newandmoving.points import mo_new
from tests.told import EDGE_POINTS, NOT_POINTS, Unchanging, at, told


class Ordinary(unittest.TestCase):
    def test_those_without_a_known_one_near_are_told_rising(self):
        known = told(at(0, 0), at(100, 50))
        l = told(at(20, 20), at(1, 2), at(98, 51), at(60, 60), at(100, 70), at(0, 0))
        self.assertEqual(mo_new(5, known, l), [3, 0, 3, 4])

    def test_none_is_new(self):
        self.assertEqual(mo_new(5, told(at(0, 0)), told(at(1, 1), at(2, 2))), [0])

    def test_any_known_one_will_do(self):
        known = told(at(500, 500), at(0, 0), at(-500, -500))
        self.assertEqual(mo_new(2, known, told(at(1, 1), at(499, 501), at(-501, -500))), [0])

    def test_a_point_of_l_does_not_make_another_known(self):
        self.assertEqual(mo_new(5, told(at(90, 90)), told(at(0, 0), at(0, 0), at(1, 0))), [3, 0, 1, 2])

    def test_time_and_brightness_play_no_part(self):
        known = told((65535, 10, 10, 65536))
        self.assertEqual(mo_new(1, known, told((0, 10, 10, -65536), (65535, 20, 20, 65536))), [1, 1])

    def test_against_the_words_of_the_document(self):
        places = [(-2, 0), (0, -1), (0, 0), (1, 2), (2, 2)]
        pairs = list(itertools.product(places, repeat=2))
        for r, old, new in itertools.product(range(4), pairs, pairs):
            expected = [
                k for k, (x, y) in enumerate(new)
                if all((x - u) ** 2 + (y - v) ** 2 > r ** 2 for u, v in old)
            ]
            known = told(*[at(x, y) for x, y in old])
            l = told(*[at(x, y) for x, y in new])
            self.assertEqual(mo_new(r, known, l), [len(expected)] + expected, (r, old, new))


class Edges(unittest.TestCase):
    def test_no_known_point(self):
        self.assertEqual(mo_new(65535, [], told(at(0, 0), at(7, 7))), [2, 0, 1])

    def test_no_point_in_l(self):
        self.assertEqual(mo_new(5, told(at(0, 0)), []), [0])

    def test_both_empty(self):
        self.assertEqual(mo_new(0, [], []), [0])

    def test_just_r_r_is_known_and_one_beyond_is_new(self):
        l = told(at(3, 4), at(5, 0), at(0, -5), at(1, 5), at(-5, -1), at(4, 4))
        self.assertEqual(mo_new(5, told(at(0, 0)), l), [3, 3, 4, 5])

    def test_r_of_0(self):
        l = told(at(7, 8), at(8, 8), at(7, 7))
        self.assertEqual(mo_new(0, told(at(7, 8)), l), [2, 1, 2])

    def test_places_below_0(self):
        known = told(at(-10, -20))
        l = told(at(-13, -24), at(-7, -16), at(10, 20), at(-10, 20), at(10, -20), at(-15, -21))
        self.assertEqual(mo_new(5, known, l), [4, 2, 3, 4, 5])

    def test_across_0(self):
        self.assertEqual(mo_new(2, told(at(-1, 0)), told(at(1, 0), at(2, 0))), [1, 1])

    def test_greatest_and_least_that_a_point_may_have(self):
        for point in EDGE_POINTS:
            self.assertEqual(mo_new(0, told(point), told(point)), [0], point)
            self.assertEqual(mo_new(0, told(at(5, 5)), told(point)), [1, 0], point)
            self.assertEqual(mo_new(0, told(point), told(at(5, 5))), [1, 0], point)

    def test_greatest_r(self):
        known = told(at(-32768, -32768))
        l = told(at(32767, -32768), at(32768, -32768), at(-32768, 32767), at(-32768, 32768), at(32768, 32768))
        self.assertEqual(mo_new(65535, known, l), [3, 1, 3, 4])

    def test_256_points_of_either_list(self):
        row = told(*[at(10 * k, 0) for k in range(256)])
        beside = told(*[at(10 * k, 3) for k in range(256)])
        self.assertEqual(mo_new(3, row, beside), [0])
        self.assertEqual(mo_new(2, row, beside), [256] + list(range(256)))
        self.assertEqual(mo_new(3, row, told(at(2550, 0), at(2560, 0))), [1, 1])


class Refused(unittest.TestCase):
    def test_one_point_too_many(self):
        many = told(*[at(k, 0) for k in range(257)])
        self.assertEqual(mo_new(1, many, told(at(0, 0))), [-2])
        self.assertEqual(mo_new(1, told(at(0, 0)), many), [-2])
        self.assertEqual(mo_new(1, many, []), [-2])
        self.assertEqual(mo_new(1, [], many), [-2])

    def test_275_points(self):
        many = told(*[at(0, 0)] * 275)
        self.assertEqual(mo_new(1, many, []), [-2])
        self.assertEqual(mo_new(1, [], many), [-2])

    def test_r_beyond(self):
        for r in (65536, 2 ** 31, 2 ** 32 - 1):
            self.assertEqual(mo_new(r, told(at(0, 0)), told(at(0, 0))), [-2])
            self.assertEqual(mo_new(r, [], []), [-2])

    def test_a_point_not_as_told_in_either_list(self):
        good = at(1, 1)
        for bad in NOT_POINTS:
            for points in ((bad,), (bad, good), (good, bad), (good, bad, good)):
                self.assertEqual(mo_new(1, told(*points), told(good)), [-3], points)
                self.assertEqual(mo_new(1, told(good), told(*points)), [-3], points)
                self.assertEqual(mo_new(1, told(*points), []), [-3], points)
                self.assertEqual(mo_new(1, [], told(*points)), [-3], points)

    def test_the_256th_point_is_looked_at(self):
        points = told(*[at(0, 0)] * 255 + [at(32769, 0)])
        self.assertEqual(mo_new(1, points, []), [-3])
        self.assertEqual(mo_new(1, [], points), [-3])

    def test_2_goes_ahead_of_3(self):
        bad = told(at(32769, 0))
        many = told(*[at(0, 0)] * 257)
        many_bad = told(*[at(32769, 0)] * 257)
        self.assertEqual(mo_new(65536, bad, bad), [-2])
        self.assertEqual(mo_new(1, bad, many), [-2])
        self.assertEqual(mo_new(1, many, bad), [-2])
        self.assertEqual(mo_new(1, many_bad, []), [-2])
        self.assertEqual(mo_new(1, [], many_bad), [-2])


class Interface(unittest.TestCase):
    def test_arguments(self):
        self.assertEqual(str(inspect.signature(mo_new)), "(r, known, l)")

    def test_gives_back_a_list_of_ints(self):
        for answer in (mo_new(1, told(at(9, 9)), told(at(0, 0))), mo_new(1, [], []), mo_new(65536, [], [])):
            self.assertIs(type(answer), list)
            self.assertEqual({type(number) for number in answer}, {int})

    def test_what_is_handed_in_is_not_changed(self):
        cases = [
            (told(at(0, 0), at(-9, 4)), told(at(1, 0), at(50, -50))),
            ([], told(at(1, 0))),
            (told(at(1, 0)), []),
            (told(at(1, 0)), told(at(32769, 0))),
            (told(*[at(-1, 0)] * 257), told(at(1, 0))),
        ]
        for known, l in cases:
            handed_known = Unchanging(known)
            handed_l = Unchanging(l)
            mo_new(2, handed_known, handed_l)
            self.assertEqual(handed_known, known)
            self.assertEqual(handed_l, l)

    def test_one_list_may_be_handed_in_twice(self):
        points = Unchanging(told(at(0, 0), at(9, 9)))
        self.assertEqual(mo_new(0, points, points), [0])

    def test_nothing_is_kept(self):
        known = told(at(0, 0))
        l = told(at(9, 9), at(0, 0))
        first = mo_new(1, known, l)
        first.append(77)
        mo_new(65536, l, known)
        mo_new(1, l, l)
        self.assertEqual(mo_new(1, known, l), [1, 0])
        self.assertEqual(mo_new(1, [], l), [2, 0, 1])


if __name__ == "__main__":
    unittest.main()
