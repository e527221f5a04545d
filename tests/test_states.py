"""Promise 1: mo_states."""

import inspect
import itertools
import unittest

from newandmoving.points import mo_states
from tests.told import EDGE_POINTS, NOT_POINTS, Unchanging, at, told


def state_by_the_document(r, d, point, seen):
    if not seen:
        return 3
    far = [(x - point[1]) ** 2 + (y - point[2]) ** 2 for (t, x, y, brightness) in seen]
    if min(far) > r ** 2:
        return 3
    fainter_by = seen[far.index(min(far))][3] - point[3]
    if fainter_by < -d:
        return 1
    return 2 if fainter_by > d else 0


class Ordinary(unittest.TestCase):
    def test_each_state(self):
        known = told(at(0, 0, 100), at(50, 0, 100), at(100, 0, 100), at(150, 0, 100))
        l = told(at(101, 1, 130), at(51, 0, 70), at(1, 0, 105), at(150, 40, 100))
        self.assertEqual(mo_states(5, 10, known, l), [0, 0, 1, 2, 3])

    def test_less_is_brighter(self):
        self.assertEqual(mo_states(1, 5, told(at(0, 0, 20)), told(at(0, 0, 10))), [0, 1])
        self.assertEqual(mo_states(1, 5, told(at(0, 0, 10)), told(at(0, 0, 20))), [0, 2])

    def test_the_nearest_counts_wherever_it_stands(self):
        near = at(1, 0, 50)
        middle = at(2, 0, 0)
        far = at(0, 3, -50)
        for l in itertools.permutations((near, middle, far)):
            self.assertEqual(mo_states(5, 10, told(at(0, 0, 0)), told(*l)), [0, 2], l)

    def test_two_known_points_may_have_the_same_nearest(self):
        known = told(at(0, 0, 0), at(2, 0, 60))
        self.assertEqual(mo_states(5, 10, known, told(at(1, 0, 30))), [0, 2, 1])

    def test_time_plays_no_part(self):
        self.assertEqual(mo_states(1, 5, told((65535, 0, 0, 0)), told((0, 0, 0, 0))), [0, 0])
        self.assertEqual(mo_states(1, 5, told((0, 0, 0, 0)), told((65535, 0, 0, 0))), [0, 0])

    def test_against_the_words_of_the_document(self):
        points = [at(-1, 0, -2), at(0, 0, 0), at(0, 1, 1), at(1, 0, 2), at(2, -2, -1)]
        pairs = list(itertools.product(points, repeat=2))
        for r, d, known, l in itertools.product(range(4), range(4), pairs, pairs):
            expected = [state_by_the_document(r, d, point, l) for point in known]
            self.assertEqual(mo_states(r, d, told(*known), told(*l)), [0] + expected, (r, d, known, l))


class Edges(unittest.TestCase):
    def test_no_known_point(self):
        self.assertEqual(mo_states(5, 5, [], told(at(0, 0))), [0])

    def test_no_point_in_l(self):
        self.assertEqual(mo_states(65535, 131072, told(at(0, 0), at(5, 5)), []), [0, 3, 3])

    def test_both_empty(self):
        self.assertEqual(mo_states(0, 0, [], []), [0])

    def test_just_r_r_is_there_and_one_beyond_is_gone(self):
        known = told(at(0, 0))
        for x, y in ((3, 4), (5, 0), (0, -5), (-4, 3)):
            self.assertEqual(mo_states(5, 0, known, told(at(x, y))), [0, 0], (x, y))
        for x, y in ((1, 5), (-5, 1), (5, -1), (4, 4)):
            self.assertEqual(mo_states(5, 0, known, told(at(x, y))), [0, 3], (x, y))

    def test_r_of_0(self):
        known = told(at(7, 8), at(8, 8))
        self.assertEqual(mo_states(0, 0, known, told(at(7, 8))), [0, 0, 3])

    def test_of_as_near_points_the_first(self):
        known = told(at(0, 0, 0))
        self.assertEqual(mo_states(5, 10, known, told(at(3, 4, 50), at(-5, 0, -50))), [0, 2])
        self.assertEqual(mo_states(5, 10, known, told(at(-5, 0, -50), at(3, 4, 50))), [0, 1])
        self.assertEqual(mo_states(5, 10, known, told(at(0, 0, 3), at(0, 0, 50), at(0, 0, -50))), [0, 0])
        self.assertEqual(mo_states(6, 10, known, told(at(6, 0, -50), at(0, 5, 50), at(4, 3, -50))), [0, 2])

    def test_brightness_by_just_d_and_by_one_more(self):
        known = told(at(0, 0, 3))
        self.assertEqual(mo_states(0, 10, known, told(at(0, 0, -7))), [0, 0])
        self.assertEqual(mo_states(0, 10, known, told(at(0, 0, -8))), [0, 1])
        self.assertEqual(mo_states(0, 10, known, told(at(0, 0, 13))), [0, 0])
        self.assertEqual(mo_states(0, 10, known, told(at(0, 0, 14))), [0, 2])

    def test_d_of_0(self):
        known = told(at(0, 0, -4), at(0, 0, -5), at(0, 0, -6))
        self.assertEqual(mo_states(0, 0, known, told(at(0, 0, -5))), [0, 1, 0, 2])

    def test_places_below_0(self):
        known = told(at(-10, -20))
        self.assertEqual(mo_states(5, 0, known, told(at(-13, -24))), [0, 0])
        for x, y in ((10, 20), (-10, 20), (10, -20), (-15, -21)):
            self.assertEqual(mo_states(5, 0, known, told(at(x, y))), [0, 3], (x, y))

    def test_brightnesses_below_0(self):
        self.assertEqual(mo_states(0, 5, told(at(0, 0, -20)), told(at(0, 0, -10))), [0, 2])
        self.assertEqual(mo_states(0, 5, told(at(0, 0, -10)), told(at(0, 0, -20))), [0, 1])

    def test_greatest_and_least_that_a_point_may_have(self):
        for point in EDGE_POINTS:
            self.assertEqual(mo_states(0, 0, told(point), told(point)), [0, 0], point)
            self.assertEqual(mo_states(0, 0, told(at(5, 5)), told(point)), [0, 3], point)
            self.assertEqual(mo_states(0, 0, told(point), told(at(5, 5))), [0, 3], point)

    def test_greatest_d(self):
        brightest = told(at(0, 0, -65536))
        faintest = told(at(0, 0, 65536))
        self.assertEqual(mo_states(0, 131072, brightest, faintest), [0, 0])
        self.assertEqual(mo_states(0, 131072, faintest, brightest), [0, 0])
        self.assertEqual(mo_states(0, 131071, brightest, faintest), [0, 2])
        self.assertEqual(mo_states(0, 131071, faintest, brightest), [0, 1])

    def test_greatest_r(self):
        known = told(at(-32768, -32768))
        self.assertEqual(mo_states(65535, 0, known, told(at(32767, -32768))), [0, 0])
        self.assertEqual(mo_states(65535, 0, known, told(at(-32768, 32767))), [0, 0])
        self.assertEqual(mo_states(65535, 0, known, told(at(32768, -32768))), [0, 3])
        self.assertEqual(mo_states(65535, 0, known, told(at(-32768, 32768))), [0, 3])
        self.assertEqual(mo_states(65535, 0, known, told(at(32768, 32768))), [0, 3])

    def test_256_points_of_either_list(self):
        row = told(*[at(10 * k, 0, 0) for k in range(256)])
        beside = told(*[at(10 * k, 3, k - 128) for k in range(256)])
        self.assertEqual(mo_states(3, 100, row, beside), [0] + [1] * 28 + [0] * 201 + [2] * 27)
        self.assertEqual(mo_states(2, 100, row, beside), [0] + [3] * 256)


class Refused(unittest.TestCase):
    def test_one_point_too_many(self):
        many = told(*[at(k, 0) for k in range(257)])
        self.assertEqual(mo_states(1, 1, many, told(at(0, 0))), [-2])
        self.assertEqual(mo_states(1, 1, told(at(0, 0)), many), [-2])
        self.assertEqual(mo_states(1, 1, many, []), [-2])
        self.assertEqual(mo_states(1, 1, [], many), [-2])

    def test_275_points(self):
        many = told(*[at(0, 0)] * 275)
        self.assertEqual(mo_states(1, 1, many, []), [-2])
        self.assertEqual(mo_states(1, 1, [], many), [-2])

    def test_r_beyond(self):
        for r in (65536, 2 ** 31, 2 ** 32 - 1):
            self.assertEqual(mo_states(r, 1, told(at(0, 0)), told(at(0, 0))), [-2])
            self.assertEqual(mo_states(r, 1, [], []), [-2])

    def test_d_beyond(self):
        for d in (131073, 2 ** 31, 2 ** 32 - 1):
            self.assertEqual(mo_states(1, d, told(at(0, 0)), told(at(0, 0))), [-2])
            self.assertEqual(mo_states(1, d, [], []), [-2])

    def test_a_point_not_as_told_in_either_list(self):
        good = at(1, 1)
        for bad in NOT_POINTS:
            for points in ((bad,), (bad, good), (good, bad), (good, bad, good)):
                self.assertEqual(mo_states(1, 1, told(*points), told(good)), [-3], points)
                self.assertEqual(mo_states(1, 1, told(good), told(*points)), [-3], points)
                self.assertEqual(mo_states(1, 1, told(*points), []), [-3], points)
                self.assertEqual(mo_states(1, 1, [], told(*points)), [-3], points)

    def test_the_256th_point_is_looked_at(self):
        points = told(*[at(0, 0)] * 255 + [at(32769, 0)])
        self.assertEqual(mo_states(1, 1, points, []), [-3])
        self.assertEqual(mo_states(1, 1, [], points), [-3])

    def test_2_goes_ahead_of_3(self):
        bad = told(at(32769, 0))
        many = told(*[at(0, 0)] * 257)
        many_bad = told(*[at(32769, 0)] * 257)
        self.assertEqual(mo_states(65536, 1, bad, bad), [-2])
        self.assertEqual(mo_states(1, 131073, bad, bad), [-2])
        self.assertEqual(mo_states(1, 1, bad, many), [-2])
        self.assertEqual(mo_states(1, 1, many, bad), [-2])
        self.assertEqual(mo_states(1, 1, many_bad, []), [-2])
        self.assertEqual(mo_states(1, 1, [], many_bad), [-2])


class Interface(unittest.TestCase):
    def test_arguments(self):
        self.assertEqual(str(inspect.signature(mo_states)), "(r, d, known, l)")

    def test_gives_back_a_list_of_ints(self):
        answers = [
            mo_states(1, 1, told(at(0, 0), at(9, 9)), told(at(0, 0))),
            mo_states(1, 1, [], []),
            mo_states(65536, 1, [], []),
        ]
        for answer in answers:
            self.assertIs(type(answer), list)
            self.assertEqual({type(number) for number in answer}, {int})

    def test_what_is_handed_in_is_not_changed(self):
        cases = [
            (told(at(0, 0, -5), at(-9, 4)), told(at(1, 0), at(50, -50, -70))),
            ([], told(at(1, 0))),
            (told(at(1, 0)), []),
            (told(at(1, 0)), told(at(32769, 0))),
            (told(*[at(-1, 0)] * 257), told(at(1, 0))),
        ]
        for known, l in cases:
            handed_known = Unchanging(known)
            handed_l = Unchanging(l)
            mo_states(2, 2, handed_known, handed_l)
            self.assertEqual(handed_known, known)
            self.assertEqual(handed_l, l)

    def test_one_list_may_be_handed_in_twice(self):
        points = Unchanging(told(at(0, 0), at(9, 9, -3)))
        self.assertEqual(mo_states(0, 0, points, points), [0, 0, 0])

    def test_nothing_is_kept(self):
        known = told(at(0, 0), at(30, 30))
        l = told(at(0, 0, 9))
        first = mo_states(1, 1, known, l)
        first.append(77)
        mo_states(65536, 1, l, known)
        mo_states(1, 1, l, known)
        self.assertEqual(mo_states(1, 1, known, l), [0, 2, 3])
        self.assertEqual(mo_states(1, 1, known, []), [0, 3, 3])


if __name__ == "__main__":
    unittest.main()
