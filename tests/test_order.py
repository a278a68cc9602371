import itertools
import math
import unittest
from fractions import Fraction

from exactlutes.intervals import add, logarithm_bounds, order, series_bounds, sub
from support import (
    EQUAL_FIFTH, FIFTH, INTERVALS, NO_INTERVALS, OCTAVE, UNISON, GuardedList, check_answer, check_second_call,
    exact_side, opposite, ratio,
)

# The first of each two is wider, by less than a ten thousand millionth of a cent.
NEARLY_THE_SAME = [
    ([31, -39, 6, 8, 24], [-49, 52, 0, -10, 23]),
    ([-17, -87, -90, -64, 24], [-95, 6, -92, -79, 23]),
    ([-17, 9, -18, 8, 24], [-95, 98, -23, -10, 23]),
    ([79, 9, 78, 80, 24], [-3, 98, 69, 59, 23]),
    ([-57, -97, 4, 76, 23], [55, -4, 92, -89, 24]),
    ([-34, -5, 4, 99, 23], [79, 92, 92, -65, 24]),
    ([-80, -97, -88, 76, 23], [31, -4, -4, -89, 24]),
    ([30, 59, -89, 30, 24], [-88, -90, 49, 42, 23]),
    ([78, 83, -41, 78, 24], [-42, -67, 95, 88, 23]),
    ([30, 59, -89, -90, 24], [-88, -90, 49, -73, 23]),
    ([75, 86, 84, -12, 23], [98, 78, -38, 91, 24]),
    ([-86, -75, 38, -81, 23], [-70, -90, -86, 19, 24]),
]


def expected_order(x, y):
    return [1 + exact_side([p - q for p, q in zip(ratio(x), ratio(y))])]


def rounded_width(x):
    return sum(power * math.log(base) for base, power in zip((2, 3, 5, 7), x)) / x[4]


class Order(unittest.TestCase):
    def check_wider(self, pairs):
        """Pairs of which the first is wider, asked either way round."""
        for x, y in pairs:
            with self.subTest(x=x, y=y):
                check_answer(self, order(x, y), [2])
                check_answer(self, order(y, x), [0])
                check_answer(self, order(opposite(x), opposite(y)), [0])
                check_answer(self, order(opposite(y), opposite(x)), [2])

    def test_ordinary_intervals(self):
        self.check_wider([
            (OCTAVE, FIFTH),
            (FIFTH, EQUAL_FIFTH),
            (EQUAL_FIFTH, [1, 0, 0, 0, 2]),
            ([-2, 0, 1, 0, 1], [1, 0, 0, 0, 4]),
            ([0, 1, 0, 0, 1], OCTAVE),
            ([0, 0, 1, 0, 1], [0, 1, 0, 0, 1]),
            ([0, 0, 0, 1, 1], [0, 0, 1, 0, 1]),
            ([0, 0, 1, 0, 1], [2, 0, 0, 0, 1]),
            ([3, 0, 0, 0, 1], [0, 0, 0, 1, 1]),
            ([0, 2, 0, 0, 1], [3, 0, 0, 0, 1]),
            ([0, 0, 2, 0, 1], [3, 1, 0, 0, 1]),
            ([0, 0, 0, 2, 1], [4, 1, 0, 0, 1]),
            ([1, 0, 2, 0, 1], [0, 0, 0, 2, 1]),
            ([1, 0, 0, 0, 23], [1, 0, 0, 0, 24]),
        ])

    def test_against_the_unison(self):
        self.check_wider([
            (OCTAVE, UNISON), (FIFTH, UNISON), (EQUAL_FIFTH, UNISON), ([1, 0, 0, 0, 24], UNISON),
            ([-4, 4, -1, 0, 1], UNISON), ([-19, 12, 0, 0, 1], UNISON), ([6, -2, 0, -1, 1], UNISON),
            ([99, 99, 99, 99, 1], UNISON), ([1, 1, 1, 1, 24], UNISON),
            (UNISON, [0, -1, 0, 0, 1]), (UNISON, [0, 0, 0, -1, 24]), (UNISON, [1, -1, 0, 0, 1]),
        ])

    def test_one_below_and_one_above_the_unison(self):
        self.check_wider([
            (OCTAVE, [-1, 0, 0, 0, 1]), ([1, 0, 0, 0, 24], [-1, 0, 0, 0, 24]), (FIFTH, [1, -1, 0, 0, 1]),
            ([-4, 4, -1, 0, 1], [4, -4, 1, 0, 1]), ([99, 99, 99, 99, 1], [-99, -99, -99, -99, 1]),
        ])

    def test_both_below_the_unison(self):
        self.check_wider([
            ([-1, 0, 0, 0, 24], [-1, 0, 0, 0, 23]), ([-7, 0, 0, 0, 12], [1, -1, 0, 0, 1]),
            ([1, -1, 0, 0, 1], [-1, 0, 0, 0, 1]), ([-99, -99, -99, -98, 1], [-99, -99, -99, -99, 1]),
        ])

    def test_the_same(self):
        for x in INTERVALS + [x for pair in NEARLY_THE_SAME for x in pair]:
            check_answer(self, order(x, x), [1])
            check_answer(self, order(x, list(x)), [1])

    def test_nearly_the_same(self):
        self.check_wider(NEARLY_THE_SAME)
        for x, y in NEARLY_THE_SAME:
            self.assertEqual(expected_order(x, y), [2])
            self.assertLess(abs(rounded_width(x) - rounded_width(y)), 1e-13)
        # Rounded numbers would tell some of these the other way round.
        self.assertTrue(any(rounded_width(x) <= rounded_width(y) for x, y in NEARLY_THE_SAME))

    def test_nearly_the_unison(self):
        self.check_wider([
            (x if exact_side(ratio(x)) > 0 else opposite(x), UNISON)
            for x in ([-92, -17, 21, 25, 1], [-92, 15, 85, -46, 1], [-9, 28, -37, 18, 1], [-92, -17, 21, 25, 24],
                      [-84, 53, 0, 0, 1])
        ])

    def test_every_two_of_many(self):
        many = INTERVALS + [x for pair in NEARLY_THE_SAME for x in pair]
        for x, y in itertools.product(many, many):
            check_answer(self, order(x, y), expected_order(x, y))

    def test_either_or_both_no_interval(self):
        for wrong in NO_INTERVALS:
            for x in INTERVALS:
                check_answer(self, order(wrong, x), [-1])
                check_answer(self, order(x, wrong), [-1])
            for other in NO_INTERVALS:
                check_answer(self, order(wrong, other), [-1])
            check_answer(self, order(wrong, wrong), [-1])

    def test_the_wider_stays_the_wider(self):
        seen = 0
        for x, y in list(itertools.product(INTERVALS, INTERVALS)) + NEARLY_THE_SAME:
            told = order(x, y)
            for z in INTERVALS:
                for put in (add, sub):
                    upon_x = put(x, z)
                    upon_y = put(y, z)
                    if upon_x[0] == 1 and upon_y[0] == 1:
                        seen += 1
                        self.assertEqual(order(upon_x[1:], upon_y[1:]), told, (x, y, z))
                        self.assertEqual(order(upon_y[1:], upon_x[1:]), [2 - told[0]], (x, y, z))
        self.assertGreater(seen, 3000)

    def test_whatever_is_put_upon_both_nearly_the_same(self):
        whole = [[k if place == at else 0 for at in range(4)] + [1] for k in range(-8, 9) for place in range(4)]
        seen = 0
        for (x, y), z in itertools.product(NEARLY_THE_SAME, whole):
            upon_x = add(x, z)
            upon_y = add(y, z)
            if upon_x[0] == 1 and upon_y[0] == 1:
                seen += 1
                self.assertEqual(order(upon_x[1:], upon_y[1:]), [2])
        self.assertGreater(seen, 200)

    def test_what_is_wider_than_a_wider_one_is_wider(self):
        many = INTERVALS + [x for pair in NEARLY_THE_SAME for x in pair]
        wider = {(k, m): order(x, y) == [2] for k, x in enumerate(many) for m, y in enumerate(many)}
        for k, m, n in itertools.product(range(len(many)), repeat=3):
            if wider[k, m] and wider[m, n]:
                self.assertTrue(wider[k, n])

    def test_what_is_handed_in_stays(self):
        lists = INTERVALS + NO_INTERVALS
        for first, second in itertools.product(lists, lists[::3]):
            x = GuardedList(first)
            y = GuardedList(second)
            order(x, y)
            self.assertEqual([list(x), list(y)], [first, second])
            order(x, x)
            self.assertEqual(list(x), first)

    def test_a_second_call_answers_as_the_first(self):
        for x, y, expected in (
            (FIFTH, EQUAL_FIFTH, [2]), (EQUAL_FIFTH, FIFTH, [0]), (FIFTH, FIFTH, [1]), ([], FIFTH, [-1]),
            NEARLY_THE_SAME[0] + ([2],),
        ):
            check_second_call(self, order, (x, y), expected)

    def test_arguments_by_name(self):
        check_answer(self, order(y=FIFTH, x=OCTAVE), [2])


def exact_series(k):
    """The sum of the series of k, but for less than its last summand here."""
    summands = [Fraction(1, odd * k ** odd) for odd in range(1, 80, 2)]
    return sum(summands), sum(summands) + summands[-1]


class Bounds(unittest.TestCase):
    """Wrong bounds would go unseen in most answers: they matter only where two intervals are nearly the same."""

    def test_the_series_lies_between_them(self):
        for k in (3, 5, 9, 15):
            least, most = exact_series(k)
            for scale in list(range(k, 700)) + [2 ** 32, 2 ** 64]:
                low, high = series_bounds(k, scale)
                self.assertLess(low, scale * least)
                self.assertLess(scale * most, high)

    def test_the_logarithm_lies_between_them(self):
        sums = [exact_series(k)[0] for k in (3, 5, 9, 15)]
        for weights in itertools.product((-7, -1, 0, 1, 2), repeat=4):
            logarithm = sum(weight * number for weight, number in zip(weights, sums))
            for scale in (15, 16, 27, 100, 1000):
                low, high = logarithm_bounds(weights, scale)
                self.assertLessEqual(low, scale * logarithm)
                self.assertLessEqual(scale * logarithm, high)
                self.assertTrue(low < high or (weights == (0, 0, 0, 0) and low == high == 0))

    def test_finer_ones_lie_nearer_to_one_another(self):
        for k in (3, 5, 9, 15):
            scale = 2 ** 32
            for step in range(4):
                low, high = series_bounds(k, scale)
                self.assertLess((high - low) * 2 ** 20, low)
                self.assertLess(high - low, 12 + 24 * 2 ** step)
                scale = scale * scale


if __name__ == "__main__":
    unittest.main()
