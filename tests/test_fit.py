"""Promise 4: mo_fit."""

import inspect
import unittest

from newandmoving.points import mo_fit
from tests.fits import has_fit, line, scattered, worst
from tests.told import EDGE_POINTS, NOT_POINTS, Unchanging, at, long_words, told


def answer(x0, vx, y0, vy, g, worst):
    return [0, 5] + long_words(x0, vx, y0, vy, g) + [1] + long_words(worst)


def fit_by_the_document(points):
    if not has_fit(points):
        return [-4]
    # The sum over all pairs of the squared time between them is what g comes to.
    g = sum((p[0] - q[0]) ** 2 for p in points for q in points) // 2
    words = [part * g for k in (1, 2) for part in line(points, k)]
    return answer(*[int(word) for word in words], g, worst(points))


class Ordinary(unittest.TestCase):
    def test_two_points(self):
        # n 2, sum of t 3, of t t 5, of x 30, of t x 50, of y 9, of t y 13.
        l = told((1, 10, 5, 0), (2, 20, 4, 0))
        self.assertEqual(mo_fit(l), [0, 5, 0, 10, 6, 2 ** 64 - 1, 1, 1, 0])

    def test_two_points_at_times_far_from_one_another(self):
        l = told((5, 1, 2, 0), (15, 4, 0, 0))
        self.assertEqual(mo_fit(l), answer(-50, 30, 300, -20, 100, 0))

    def test_points_that_go_evenly(self):
        points = [(t, 7 + 3 * t, 90 - 2 * t, 0) for t in (0, 1, 4, 5, 9)]
        g = 5 * (1 + 16 + 25 + 81) - 19 * 19
        self.assertEqual(mo_fit(told(*points)), answer(7 * g, 3 * g, 90 * g, -2 * g, g, 0))

    def test_points_that_stay(self):
        points = [(t, -7, 9, 0) for t in (0, 2, 3)]
        self.assertEqual(mo_fit(told(*points)), answer(-7 * 14, 0, 9 * 14, 0, 14, 0))

    def test_points_that_do_not_go_evenly(self):
        # By the fit they are at 128 below 0, at 256 and at 640 of 256ths: the second misses most.
        l = told((0, 0, 0, 0), (1, 0, 0, 0), (2, 3, 0, 0))
        self.assertEqual(mo_fit(l), answer(-3, 9, 0, 0, 6, 256 ** 2))

    def test_the_worst_is_of_x_and_y_together(self):
        l = told((0, 0, 0, 0), (1, 0, 0, 0), (2, 3, -3, 0))
        self.assertEqual(mo_fit(l), answer(-3, 9, 3, -9, 6, 2 * 256 ** 2))

    def test_the_worst_is_of_one_point(self):
        # One misses in x most, another one in y: the two are not put together.
        points = [(0, 0, 0, 0), (1, 30, 0, 0), (2, 0, 0, 0), (10, 0, 0, 0), (11, 0, 50, 0), (12, 0, 0, 0)]
        self.assertEqual(mo_fit(told(*points)), fit_by_the_document(points))

    def test_the_worst_may_be_any_point(self):
        for k in range(5):
            points = [(t, t, 2 * t, 0) for t in range(5)]
            points[k] = (k, k, 2 * k + 9, 0)
            self.assertEqual(mo_fit(told(*points)), fit_by_the_document(points), k)

    def test_the_order_of_the_points_plays_no_part(self):
        points = scattered(6, 5, 20, 30)
        self.assertEqual(mo_fit(told(*points)), mo_fit(told(*points[::-1])))

    def test_some_at_the_same_time(self):
        # At 0 the fit goes through the middle of the two, at 2 through the one.
        l = told((0, 1, 0, 0), (0, 3, 0, 0), (2, 6, -4, 0))
        self.assertEqual(mo_fit(l), answer(16, 16, 0, -16, 8, 256 ** 2))

    def test_brightness_plays_no_part(self):
        l = told((1, 10, 5, 65536), (2, 20, 4, -65536))
        self.assertEqual(mo_fit(l), answer(0, 10, 6, -1, 1, 0))

    def test_against_the_words_of_the_document(self):
        for step in range(200):
            for many, last_time, farthest in ((2, 3, 4), (3, 3, 4), (5, 60, 9), (9, 65535, 32768)):
                points = scattered(many, step, last_time, farthest)
                self.assertEqual(mo_fit(told(*points)), fit_by_the_document(points), points)


class Edges(unittest.TestCase):
    def test_no_point(self):
        self.assertEqual(mo_fit([]), [-4])

    def test_one_point(self):
        for point in ((0, 0, 0, 0), (7, 3, -3, 0), (65535, 32768, -32768, 0)):
            self.assertEqual(mo_fit(told(point)), [-4], point)

    def test_two_at_one_time(self):
        for t in (0, 1, 65535):
            self.assertEqual(mo_fit(told((t, 1, 2, 0), (t, 3, 4, 0))), [-4], t)
            self.assertEqual(mo_fit(told((t, 1, 2, 0), (t, 1, 2, 0))), [-4], t)

    def test_all_at_one_time(self):
        for t in (0, 9, 65535):
            self.assertEqual(mo_fit(told(*[(t, k, -k, 0) for k in range(48)])), [-4], t)

    def test_one_of_many_at_another_time(self):
        points = [(9, 2, -2, 0)] * 47 + [(10, 5, -6, 0)]
        self.assertEqual(mo_fit(told(*points)), answer(-25 * 47, 3 * 47, 34 * 47, -4 * 47, 47, 0))

    def test_halfway_above_0_the_greater(self):
        # The second's place is 308 and a half, told as 309; it's at 256 below 0.
        points = [(1, 3), (6, -1), (20, 1), (12, 0), (12, 2)]
        in_x = told(*[(t, place, 0, 0) for t, place in points])
        in_y = told(*[(t, 0, place, 0) for t, place in points])
        self.assertEqual(mo_fit(in_x)[-2:], [1, 565 ** 2])
        self.assertEqual(mo_fit(in_y)[-2:], [1, 565 ** 2])

    def test_halfway_below_0_the_greater(self):
        # The third's place is 449 and a half below 0, told as 449 below 0; it's at 0.
        points = [(20, -2), (27, -2), (21, 0), (37, -1), (21, -3)]
        in_x = told(*[(t, place, 0, 0) for t, place in points])
        in_y = told(*[(t, 0, place, 0) for t, place in points])
        self.assertEqual(mo_fit(in_x)[-2:], [1, 449 ** 2])
        self.assertEqual(mo_fit(in_y)[-2:], [1, 449 ** 2])

    def test_beside_halfway_the_nearest(self):
        # By the fit the second is at 85 and a third, at 170 and two thirds, above and below 0.
        self.assertEqual(mo_fit(told((0, 0, 0, 0), (1, 0, 0, 0), (2, 1, 0, 0)))[-1], 85 ** 2)
        self.assertEqual(mo_fit(told((0, 0, 0, 0), (1, 0, 0, 0), (2, -1, 0, 0)))[-1], 85 ** 2)
        self.assertEqual(mo_fit(told((0, 0, 0, 0), (1, 0, 0, 0), (2, 2, 0, 0)))[-1], 171 ** 2)
        self.assertEqual(mo_fit(told((0, 0, 0, 0), (1, 0, 0, 0), (2, -2, 0, 0)))[-1], 171 ** 2)

    def test_below_0_with_2_to_the_64_added(self):
        l = told((0, -1, -2, 0), (1, -2, -4, 0))
        top = 18446744073709551616
        self.assertEqual(mo_fit(l), [0, 5, top - 1, top - 1, top - 2, top - 2, 1, 1, 0])

    def test_places_below_0(self):
        points = [(0, -10, -20, 0), (1, -12, -17, 0), (2, -14, -14, 0)]
        self.assertEqual(mo_fit(told(*points)), answer(-60, -12, -120, 18, 6, 0))

    def test_greatest_and_least_that_a_point_may_have(self):
        for (t, x, y, brightness) in EDGE_POINTS:
            points = [(t, x, y, brightness), (5, 0, 0, 0), (9, 1, 1, 0)]
            self.assertEqual(mo_fit(told(*points)), fit_by_the_document(points), points)

    def test_48_points_from_corner_to_corner(self):
        points = [(0, -32768, 32768, 0)] * 24 + [(65535, 32768, -32768, 0)] * 24
        g = 24 * 24 * 65535 ** 2
        there = 24 * 24 * 65535 * 65536
        self.assertEqual(mo_fit(told(*points)), answer(-32768 * g, there, 32768 * g, -there, g, 0))

    def test_48_points_at_the_greatest_and_the_least(self):
        corners = [
            (0, -32768, -32768, -65536), (0, 32768, 32768, 65536),
            (65535, -32768, 32768, 65536), (65535, 32768, -32768, -65536),
        ]
        for many in ((12, 12, 12, 12), (47, 0, 1, 0), (1, 0, 0, 47), (0, 1, 46, 1), (1, 23, 1, 23), (24, 0, 0, 24)):
            points = [corner for corner, times in zip(corners, many) for _ in range(times)]
            self.assertEqual(len(points), 48)
            self.assertEqual(mo_fit(told(*points)), fit_by_the_document(points), many)

    def test_48_points_late_and_far(self):
        points = [(65535 - k % 2, 32768, -32768, 0) for k in range(48)]
        g = 24 * 24
        self.assertEqual(mo_fit(told(*points)), answer(32768 * g, 0, -32768 * g, 0, g, 0))

    def test_48_scattered_points(self):
        points = scattered(48, 3, 65535, 32768)
        self.assertEqual(mo_fit(told(*points)), fit_by_the_document(points))


class Refused(unittest.TestCase):
    def test_one_point_too_many(self):
        self.assertEqual(mo_fit(told(*[(k, k, 0, 0) for k in range(49)])), [-2])

    def test_60_points(self):
        self.assertEqual(mo_fit(told(*[(k, k, 0, 0) for k in range(60)])), [-2])

    def test_a_point_not_as_told(self):
        good = at(1, 1)
        later = at(1, 1, 0, 1)
        for bad in NOT_POINTS:
            for points in ((bad, good, later), (good, bad, later), (good, later, bad)):
                self.assertEqual(mo_fit(told(*points)), [-3], points)

    def test_the_48th_point_is_looked_at(self):
        self.assertEqual(mo_fit(told(*[(k, 0, 0, 0) for k in range(47)] + [(47, 32769, 0, 0)])), [-3])

    def test_2_goes_ahead_of_3_and_of_4(self):
        self.assertEqual(mo_fit(told(*[(k, 32769, 0, 0) for k in range(49)])), [-2])
        self.assertEqual(mo_fit(told(*[at(0, 0)] * 49)), [-2])

    def test_3_goes_ahead_of_4(self):
        for bad in NOT_POINTS:
            self.assertEqual(mo_fit(told(bad)), [-3], bad)
            self.assertEqual(mo_fit(told(bad, bad)), [-3], bad)
        self.assertEqual(mo_fit(told(at(0, 0), at(32769, 0), at(0, 0))), [-3])


class Interface(unittest.TestCase):
    def test_arguments(self):
        self.assertEqual(str(inspect.signature(mo_fit)), "(l)")

    def test_gives_back_a_list_of_ints(self):
        for given in (told((0, -1, 2, 0), (1, -5, 3, 0)), [], told(at(32769, 0))):
            self.assertIs(type(mo_fit(given)), list)
            self.assertEqual({type(number) for number in mo_fit(given)}, {int})

    def test_what_is_handed_in_is_not_changed(self):
        cases = [
            told((2, -6, 0, -9), (0, 0, 0, 9), (1, -3, 0, 0)),
            [],
            told(at(0, -5), at(0, 5)),
            told(at(32769, 0)),
            told(*[at(-1, 0)] * 49),
        ]
        for l in cases:
            handed = Unchanging(l)
            mo_fit(handed)
            self.assertEqual(handed, l)

    def test_nothing_is_kept(self):
        l = told((0, 0, 0, 0), (1, 1, 2, 0))
        first = mo_fit(l)
        first.append(77)
        mo_fit([])
        mo_fit(told((0, 5, 5, 0), (2, 8, 8, 0), (3, 90, 0, 0)))
        self.assertEqual(mo_fit(l), [0, 5, 0, 1, 0, 2, 1, 1, 0])
        self.assertEqual(mo_fit([]), [-4])


if __name__ == "__main__":
    unittest.main()
